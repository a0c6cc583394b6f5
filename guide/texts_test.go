package guide_test

import (
	"math"
	"math/big"
	"slices"
	"strings"
	"testing"

	"herald/api"
	"herald/guide"
)

// counts asks how many texts of n bytes are accepted.
func counts(t *testing.T, g api.Guide, n int, want int64, wantOK bool) {
	t.Helper()
	if count, ok, e := guide.Count(g, n); count != want || ok != wantOK || e != api.OK {
		t.Errorf("Count(%v, %d): %d, %v, %d and not %d, %v", g, n, count, ok, e, want, wantOK)
	}
}

// 15.9
func TestShortest(t *testing.T) {
	isTold(t, "no states", "")(guide.Shortest(of("")))
	isTold(t, "nothing", "")(guide.Shortest(of("1")))
	isTold(t, "something", "a")(guide.Shortest(exampleGuide()))
	isTold(t, "not the first edge", "b")(guide.Shortest(of("01", edge(0, 'c', 'd', 1), edge(0, 'b', 'b', 1))))
	isTold(t, "shorter ahead of lesser", "z")(guide.Shortest(compiled(t, "aa|z")))
	isTold(t, "the first place counts", "az")(guide.Shortest(compiled(t, "ba|az")))
	isTold(t, "the least byte", "\x00\x00")(guide.Shortest(compiled(t, `..`)))
	isTold(t, "the greatest byte", "\xff")(guide.Shortest(compiled(t, `\xff`)))
	isTold(t, "over a later state", "ab")(guide.Shortest(of("0001", edge(0, 'a', 'a', 2), edge(0, 'b', 'b', 1), edge(1, 'a', 'a', 3), edge(2, 'b', 'b', 3))))
	isTold(t, "not into the dead", "b")(guide.Shortest(of("001", edge(0, 'a', 'a', 1), edge(0, 'b', 'b', 2), edge(1, 'a', 'a', 1))))
	long := many(64, 0)
	for state := range 63 {
		long.Accept[state] = false
		long.Edges = append(long.Edges, edge(state, 'x', 'z', state+1), edge(state, 'a', 'w', 0))
	}
	isTold(t, "far off", strings.Repeat("x", 63))(guide.Shortest(long))
}

// 15.9: by the words.
func TestShortestByTheWords(t *testing.T) {
	s := spread(5)
	all := allOver(6, "abc")
	for range 1500 {
		g := s.guide(7, 'a', 3)
		at := slices.IndexFunc(all, func(text string) bool { return plainAccepts(g, text) })
		isTold(t, "Shortest", all[at])(guide.Shortest(g))
	}
}

// 15.9
func TestCount(t *testing.T) {
	none := of("")
	counts(t, none, 0, 1, true)
	counts(t, none, 1, 256, true)
	counts(t, none, 7, 1<<56, true)
	counts(t, none, 8, 0, false)
	counts(t, none, 1024, 0, false)
	counts(t, of("1"), 0, 1, true)
	counts(t, of("1"), 1, 0, true)
	counts(t, of("1"), 1024, 0, true)
	counts(t, compiled(t, "a{3}"), 3, 1, true)
	counts(t, compiled(t, "a{3}"), 2, 0, true)
	counts(t, compiled(t, "a{3}"), 4, 0, true)
	counts(t, compiled(t, "[ab]*"), 62, 1<<62, true)
	counts(t, compiled(t, "[ab]*"), 1024, 0, false)
	counts(t, compiled(t, "a*"), 1024, 1, true)
	counts(t, exampleGuide(), 63, 1<<62, true)
	counts(t, exampleGuide(), 64, 0, false)
	counts(t, compiled(t, "[a-g]*"), 22, 3909821048582988049, true)
	counts(t, compiled(t, "[a-g]*"), 23, 0, false)
}

// 15.9: what no text of the length needs is not too many.
func TestCountAroundTheMany(t *testing.T) {
	dead := of("010", edge(0, 'a', 'a', 1), edge(0, 'b', 'z', 2), edge(2, 0, 255, 2))
	counts(t, dead, 1, 1, true)
	counts(t, dead, 1024, 0, true)
	late := of("0010", edge(0, 0, 255, 1), edge(1, 0, 255, 0), edge(1, 0, 0, 2)).Edges[:2]
	counts(t, api.Guide{Accept: []bool{false, true}, Edges: late}, 1024, 0, true)
	counts(t, api.Guide{Accept: []bool{false, true}, Edges: late}, 7, 1<<56, true)
	counts(t, api.Guide{Accept: []bool{false, true}, Edges: late}, 9, 0, false)
	counts(t, compiled(t, `.{20}b|a`), 1, 1, true)
	counts(t, compiled(t, `.{20}b|a`), 21, 0, false)
	counts(t, compiled(t, `.{20}b|a`), 20, 0, true)
}

// 15.9: the greatest int64, and one more: of all texts over two letters those that are not of the one alone, and all.
func TestCountAtTheEdge(t *testing.T) {
	all := compiled(t, "[ab]*")
	other, _ := guide.Not(compiled(t, "a*"))
	most, e := guide.And(all, other)
	isGuide(t, "most", of("01", edge(0, 'a', 'a', 0), edge(0, 'b', 'b', 1), edge(1, 'a', 'b', 1)))(most, e)
	counts(t, most, 63, math.MaxInt64, true)
	counts(t, most, 64, 0, false)
	counts(t, all, 63, 0, false)
	counts(t, all, 62, 1<<62, true)
}

// 15.9, R2, R6
func TestCountErrors(t *testing.T) {
	for _, g := range []api.Guide{of(""), of("1"), exampleGuide()} {
		for _, n := range []int{-1, 1025, math.MinInt, math.MaxInt} {
			if count, ok, e := guide.Count(g, n); count != 0 || ok || e != api.ErrArg {
				t.Errorf("Count(%v, %d): %d, %v, %d", g, n, count, ok, e)
			}
		}
	}
}

// 15.9: by numbers of any size, from the front.
func TestCountByTheWords(t *testing.T) {
	s := spread(6)
	met := map[bool]int{}
	for range 400 {
		g := s.guide(5, byte(s.below(200)), 1+s.below(40))
		ways := make([]*big.Int, len(g.Accept))
		for state := range ways {
			ways[state] = new(big.Int)
		}
		ways[0].SetInt64(1)
		for n := range 60 {
			sum := new(big.Int)
			for state, accepts := range g.Accept {
				if accepts {
					sum.Add(sum, ways[state])
				}
			}
			met[sum.IsInt64()]++
			if sum.IsInt64() {
				counts(t, g, n, sum.Int64(), true)
			} else {
				counts(t, g, n, 0, false)
			}
			longer := make([]*big.Int, len(g.Accept))
			for state := range longer {
				longer[state] = new(big.Int)
			}
			for _, e := range g.Edges {
				wide := big.NewInt(int64(e.High) - int64(e.Low) + 1)
				longer[e.To].Add(longer[e.To], wide.Mul(wide, ways[e.From]))
			}
			ways = longer
		}
	}
	if met[true] < 2000 || met[false] < 2000 {
		t.Error(met)
	}
}
