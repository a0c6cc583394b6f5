package shape_test

import (
	"fmt"
	"math"
	"strings"
	"testing"

	"herald/api"
	"herald/shape"
)

// costs asks for just these costs.
func costs(t *testing.T, s api.Shape, places int, want api.Cost, err api.Errno) {
	t.Helper()
	if c, e := shape.Costs(s, places); c != want || e != err {
		t.Errorf("Costs of %v at %d: %v, %d and not %v, %d", s, places, c, e, want, err)
	}
}

// 16.6
func TestCosts(t *testing.T) {
	s := of(3, 8, 4, 2, 2, 5)
	costs(t, s, 0, api.Cost{Numbers: numbersOf(s), Pass: 2 * (64 + 60), Score: 12}, api.OK)
	costs(t, s, 1, api.Cost{Numbers: numbersOf(s), PairBytes: 16, Pass: 2 * (64 + 8 + 60), Score: 12}, api.OK)
	costs(t, s, 8, api.Cost{Numbers: numbersOf(s), PairBytes: 128, Pass: 2 * (64 + 64 + 60), Score: 12}, api.OK)
	for _, places := range []int{-1, 9, 512, math.MinInt, math.MaxInt, 1 << 62} {
		costs(t, s, places, api.Cost{}, api.ErrArg)
	}
	costs(t, of(512, 512, 64, 1, 8, 256), 512, api.Cost{Numbers: numbersOf(of(512, 512, 64, 1, 8, 256)), PairBytes: 524288, Pass: 8 * (16384 + 65536 + 49152), Score: 32768}, api.OK)
	costs(t, of(2, 512, 2, 1, 1, 1), 513, api.Cost{}, api.ErrArg)
	costs(t, of(2, 513, 2, 1, 1, 1), 1, api.Cost{}, api.ErrShape)
	costs(t, of(2, 513, 2, 1, 1, 1), -1, api.Cost{}, api.ErrShape)
}

// 16.6: by the words.
func TestCostsByTheWords(t *testing.T) {
	for _, s := range shapes() {
		for places := 0; places <= s.Context; places++ {
			pass := s.Layers * (4*s.Dim*s.Dim + 2*s.Dim*places + 3*s.Dim*s.Hidden)
			costs(t, s, places, api.Cost{Numbers: numbersOf(s), PairBytes: 2 * s.Dim * s.Layers * places, Pass: pass, Score: s.Vocab * s.Dim}, api.OK)
		}
		costs(t, s, -1, api.Cost{}, api.ErrArg)
		costs(t, s, s.Context+1, api.Cost{}, api.ErrArg)
	}
}

// 16.6
func TestPreset(t *testing.T) {
	for name, want := range map[string]api.Shape{"tiny": of(3, 8, 2, 1, 1, 2), "small": of(64, 64, 8, 2, 2, 16), "medium": of(256, 256, 32, 4, 4, 96), "large": of(512, 512, 64, 8, 8, 256)} {
		s, e := shape.Preset(name)
		if s != want || e != api.OK {
			t.Errorf("%s: %v, %d", name, s, e)
		}
		checks(t, s, api.OK)
		valid(t, name, sampled(t, s, 1), api.Where{}, api.OK)
		for _, other := range []string{strings.ToUpper(name), strings.ToUpper(name[:1]) + name[1:], " " + name, name + " ", name + "\x00", name[1:], name[:3], name + name} {
			noPreset(t, other)
		}
	}
	for _, name := range []string{"", "huge", "0", "tinysmall", strings.Repeat("x", 100000)} {
		noPreset(t, name)
	}
}

// noPreset asks whether there is no preset of that name.
func noPreset(t *testing.T, name string) {
	t.Helper()
	if s, e := shape.Preset(name); s != (api.Shape{}) || e != api.ErrShape {
		t.Errorf("%q: %v, %d", name, s, e)
	}
}

// 16.6: all but the blocks and how many there are is as it is.
func TestCut(t *testing.T) {
	for _, s := range shapes() {
		m := sampled(t, s, 14)
		for layers := 1; layers <= s.Layers; layers++ {
			want := copyOf(m)
			want.Shape.Layers = layers
			want.Blocks = want.Blocks[:layers]
			x, e := shape.Cut(m, layers)
			if !isSame(x, want) || e != api.OK {
				t.Errorf("Cut of %v by %d: %d", s, layers, e)
			}
		}
		for _, layers := range []int{math.MinInt, -1, 0, s.Layers + 1, 9, math.MaxInt} {
			noModel(t, fmt.Sprint("Cut by ", layers), api.ErrShape)(shape.Cut(m, layers))
		}
	}
}

// 16.6: also a fault in a block that would be cut off makes a model one that is not valid.
func TestCutOfWhatIsNotValid(t *testing.T) {
	m := sampled(t, two(), 15)
	m.Blocks[1].QS = 32
	noModel(t, "a shift", api.ErrShifts)(shape.Cut(m, 1))
	noModel(t, "a shift, by 0", api.ErrShifts)(shape.Cut(m, 0))
	m = steep(t)
	m.Blocks[1].O[0] = 1
	noModel(t, "a reach", api.ErrTooFar)(shape.Cut(m, 1))
	noModel(t, "nothing", api.ErrShape)(shape.Cut(api.Model{}, 1))
}

// 16.6
func TestFitting(t *testing.T) {
	m := sampled(t, two(), 16)
	fits := func(what string, v api.Vocab, want bool) {
		t.Helper()
		if shape.Fitting(m, v) != want {
			t.Errorf("%s: not %v", what, want)
		}
	}
	v := copyOf(m).Vocab
	fits("its own", v, true)
	fits("of no merges", api.Vocab{Texts: v.Texts, Merges: []api.Merge{}}, true)
	fits("none", api.Vocab{}, false)
	fits("another merge", api.Vocab{Texts: v.Texts, Merges: []api.Merge{{Left: 1, Right: 1, Out: 2}}}, false)
	fits("fewer texts", api.Vocab{Texts: v.Texts[:4]}, false)
	fits("another text", api.Vocab{Texts: append(v.Texts[:4:4], "x")}, false)
	m.LogitS = 32
	fits("not valid", v, false)
	m.LogitS = 1
	fits("valid again", v, true)
	m = steep(t)
	fits("far", m.Vocab, true)
	m.Blocks[1].O[0] = 1
	fits("too far", m.Vocab, false)
	m = api.Model{}
	fits("nothing", api.Vocab{}, false)
}
