package guide_test

import (
	"fmt"
	"math"
	"testing"

	"herald/api"
	"herald/guide"
)

// 15.4
func TestMask(t *testing.T) {
	g := of("0100", edge(0, 'a', 'a', 1), edge(1, 'b', 'b', 0), edge(1, 'c', 'c', 2), edge(3, 'b', 'b', 1))
	v := vocabulary("a", "b", "c", "ab", "aba", "ba", "ac", "d", "acb")
	isList(t, "0", false, true, false, false, true, true, false, false, false, false)(guide.Mask(g, v, 0))
	isList(t, "1", true, false, true, false, false, false, true, false, false, false)(guide.Mask(g, v, 1))
	isList(t, "a dead end", true, false, false, false, false, false, false, false, false, false)(guide.Mask(g, v, 2))
	isList(t, "3", false, false, true, false, false, false, false, false, false, false)(guide.Mask(g, v, 3))
	isList(t, "nowhere", true, false, false, false, false, false, false, false, false, false)(guide.Mask(g, v, -1))
}

// 15.4: where no token says what would be needed, the end may follow, though the state does not accept.
func TestMaskWhereNothingFits(t *testing.T) {
	g := of("01", edge(0, 'x', 'x', 1))
	isList(t, "0", true, false, false)(guide.Mask(g, vocabulary("a", "xx"), 0))
	isList(t, "0, with x", false, true)(guide.Mask(g, vocabulary("x"), 0))
	isList(t, "1", true, false)(guide.Mask(g, vocabulary("x"), 1))
}

// 15.4
func TestMaskWithoutStates(t *testing.T) {
	v := vocabulary("a", "\xff")
	isList(t, "0", true, true, true)(guide.Mask(of(""), v, 0))
	isList(t, "nowhere", true, false, false)(guide.Mask(of(""), v, -1))
	noList(t, "1", api.ErrArg)(guide.Mask(of(""), v, 1))
	noList(t, "-2", api.ErrArg)(guide.Mask(of(""), v, -2))
}

// 15.4, R2
func TestMaskErrors(t *testing.T) {
	right, v := of("01", edge(0, 'a', 'a', 1)), vocabulary("a")
	for _, state := range []int{-2, 2, 64, math.MinInt, math.MaxInt} {
		noList(t, "no state", api.ErrArg)(guide.Mask(right, v, state))
	}
	wrong := of("00")
	noList(t, "a guide", api.ErrDead)(guide.Mask(wrong, v, 7))
	for e, other := range map[api.Errno]api.Vocab{
		api.ErrTexts: vocabulary("a", "a"),
		api.ErrMerge: {Texts: v.Texts, Merges: []api.Merge{{Left: 1, Right: 1, Out: 1}}},
	} {
		noList(t, "a vocabulary", e)(guide.Mask(right, other, 0))
		noList(t, "a vocabulary, ahead of a guide", e)(guide.Mask(wrong, other, 0))
		noList(t, "a vocabulary, ahead of a state", e)(guide.Mask(right, other, 7))
	}
}

// 15.4: by the words.
func TestMaskByTheWords(t *testing.T) {
	s := spread(4)
	v := vocabulary(allOver(3, "abcd")[1:]...)
	alone := 0
	for range 1500 {
		g := s.guide(6, 'a', 4)
		for state := -1; state < len(g.Accept); state++ {
			want := make([]bool, len(v.Texts))
			may := false
			for token, text := range v.Texts {
				to := plainWalk(g, state, text)
				want[token] = to >= 0 && plainAlive(g, to)
				if token == 0 {
					want[token] = state >= 0 && g.Accept[state]
				}
				may = may || want[token]
			}
			if !may {
				want[0] = true
				alone++
			}
			isList(t, fmt.Sprint(g, state), want...)(guide.Mask(g, v, state))
		}
	}
	if alone < 1500 {
		t.Error(alone)
	}
}
