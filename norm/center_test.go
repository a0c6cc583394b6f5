package norm_test

import (
	"slices"
	"testing"

	"herald/api"
	"herald/norm"
)

// centers asks for a row about its mean, and for the mean.
func centers(t *testing.T, l, want []int64, mean int64) {
	t.Helper()
	if c, m, e := norm.Center(l); !slices.Equal(c, want) || m != mean || e != api.OK {
		t.Errorf("Center of %v: %v, %d, %d and not %v, %d", l, c, m, e, want, mean)
	}
}

// 9.5
func TestCenter(t *testing.T) {
	centers(t, wide(0), wide(0), 0)
	centers(t, wide(7), wide(0), 7)
	centers(t, wide(-7), wide(0), -7)
	centers(t, wide(1, 2), wide(0, 1), 1)
	centers(t, wide(-1, -2), wide(1, 0), -2)
	centers(t, wide(0, -1), wide(1, 0), -1)
	centers(t, wide(-1, 0, 0), wide(0, 1, 1), -1)
	centers(t, wide(4, 1, 2), wide(2, -1, 0), 2)
	centers(t, wide(most, -most), wide(most, -most), 0)
	centers(t, filled[int64](api.MaxDim, most), make([]int64, api.MaxDim), most)
	centers(t, filled[int64](api.MaxDim, -most), make([]int64, api.MaxDim), -most)
	// Nothing is refused for lying too far from the mean.
	centers(t, wide(most, -most, -most, -most), wide(3*most/2, -most/2, -most/2, -most/2), -most/2)
	centers(t, wide(-most, most, most, most), wide(-3*most/2, most/2, most/2, most/2), most/2)
}

// 9.5: held against numbers of any size.
func TestCenterByItsWords(t *testing.T) {
	someRows(4, func(l []int64, _ *spread) {
		want, mean := centerOf(l)
		centers(t, l, want, mean)
	})
}

// 9.5, R2, R6
func TestCenterOfWhatMayNotBe(t *testing.T) {
	for name, c := range refused() {
		if l, mean, e := norm.Center(c.l); len(l) != 0 || mean != 0 || e != c.e {
			t.Errorf("%s: %v, %d, %d and not %d", name, l, mean, e, c.e)
		}
	}
}

// 9.5
func TestLayer(t *testing.T) {
	for name, c := range map[string]struct {
		l          []int64
		gain, bias []int8
		want       []int8
	}{
		"one is the bias":             {wide(5), narrow(127), narrow(-9), narrow(-9)},
		"the least bias, narrowed":    {wide(5), narrow(127), narrow(-128), narrow(-127)},
		"the greatest bias":           {wide(5), narrow(127), narrow(127), narrow(127)},
		"all alike":                   {filled[int64](api.MaxDim, most), filled[int8](api.MaxDim, 64), filled[int8](api.MaxDim, 3), filled[int8](api.MaxDim, 3)},
		"no bias":                     {wide(1, 3), narrow(64, 32), narrow(0, 0), narrow(-64, 32)},
		"each its own bias":           {wide(1, 3), narrow(64, 32), narrow(1, -1), narrow(-63, 31)},
		"narrowed behind the bias":    {wide(1, 2, 4), narrow(64, 64, 64), narrow(0, 0, -28), narrow(-64, 0, 100)},
		"far above, drawn back":       {wide(-10, 10), narrow(-128, -128), narrow(-128, 127), narrow(0, -1)},
		"far beyond with the bias":    {wide(-10, 10), narrow(-128, -128), narrow(127, -128), narrow(127, -127)},
		"the bias beside a lone one":  {wide(1, 0, 0, 0), narrow(1, 1, 1, 1), narrow(1, 2, 3, 4), narrow(2, 2, 3, 4)},
		"the mean rounded down":       {wide(0, -1), narrow(64, 64), narrow(0, 0), narrow(64, 0)},
		"the greatest at both ends":   {wide(most, -most), narrow(100, 100), narrow(1, 1), narrow(101, -99)},
		"a gain below 0":              {wide(-1, 1), narrow(-64, -1), narrow(0, 0), narrow(64, -1)},
		"a number far above the rest": {wide(3, -1, -1, -1), narrow(1, 1, 1, 1), narrow(1, 1, 1, 1), narrow(4, 0, 0, 0)},
		"far from a mean below 0":     {wide(most-1, -1), narrow(64, 64), narrow(0, 0), narrow(64, -64)},
		"half as far as what may not": {wide(most/2, -most/2, -most/2, -most/2), filled[int8](4, 32), filled[int8](4, 0), narrow(55, -18, -18, -18)},
	} {
		is(t, name, c.want)(norm.Layer(c.l, c.gain, c.bias))
	}
}

// 9.5: a half and an odd bias: what is rounded is the product alone.
func TestLayerRoundsAheadOfTheBias(t *testing.T) {
	// Of 3, 1, -1, -3 the mean is 0 and the root 2: t is 96, 32, -32, -96.
	l, ones := wide(3, 1, -1, -3), filled[int8](4, 1)
	is(t, "no bias", narrow(2, 0, 0, -2))(norm.Layer(l, ones, make([]int8, 4)))
	is(t, "odd", narrow(3, 1, 1, -1))(norm.Layer(l, ones, ones))
	is(t, "even", narrow(4, 2, 2, 0))(norm.Layer(l, ones, filled[int8](4, 2)))
}

// 9.5: held against numbers of any size.
func TestLayerByItsWords(t *testing.T) {
	told, far := 0, 0
	someRows(5, func(l []int64, s *spread) {
		gain, bias := s.gains(len(l)), s.gains(len(l))
		centered, _ := centerOf(l)
		if slices.ContainsFunc(centered, func(x int64) bool { return x > most || x < -most }) {
			far++
			fails(t, "Layer", api.ErrReach)(norm.Layer(l, gain, bias))
			return
		}
		told++
		is(t, "Layer", layerOf(centered, gain, bias))(norm.Layer(l, gain, bias))
	})
	if told < 1000 || far < 100 {
		t.Error("too few rows of a kind", told, far)
	}
}

// 9.5, R6: as far from the mean as may be, and one past it, on both sides.
func TestLayerAtTheReach(t *testing.T) {
	gain, bias := narrow(64, 64), narrow(0, 0)
	is(t, "up to the reach", narrow(64, -64))(norm.Layer(wide(most, -most), gain, bias))
	is(t, "up to the reach from a mean below 0", narrow(64, -64))(norm.Layer(wide(most-1, -most), gain, bias))
	fails(t, "one above", api.ErrReach)(norm.Layer(wide(most, -most, -3), narrow(1, 1, 1), narrow(0, 0, 0)))
	is(t, "as far below", narrow(1, -1, 0))(norm.Layer(wide(most, -most, 2), narrow(1, 1, 1), narrow(0, 0, 0)))
	fails(t, "one below", api.ErrReach)(norm.Layer(wide(most, -most, 3), narrow(1, 1, 1), narrow(0, 0, 0)))
	fails(t, "far above", api.ErrReach)(norm.Layer(append(filled[int64](api.MaxDim-1, -most), most), make([]int8, api.MaxDim), make([]int8, api.MaxDim)))
	fails(t, "far below", api.ErrReach)(norm.Layer(append(filled[int64](api.MaxDim-1, most), -most), make([]int8, api.MaxDim), make([]int8, api.MaxDim)))
}

// 9.5, R2: unlike lengths ahead of all else, then the row as it came in.
func TestLayerOfWhatMayNotBe(t *testing.T) {
	for name, c := range refused() {
		n := len(c.l)
		fails(t, name, c.e)(norm.Layer(c.l, make([]int8, n), make([]int8, n)))
		fails(t, name+", a gain more", api.ErrArg)(norm.Layer(c.l, make([]int8, n+1), make([]int8, n)))
		fails(t, name+", a bias more", api.ErrArg)(norm.Layer(c.l, make([]int8, n), make([]int8, n+1)))
		fails(t, name+", both one more", api.ErrArg)(norm.Layer(c.l, make([]int8, n+1), make([]int8, n+1)))
	}
	for name, c := range map[string]struct {
		l          []int64
		gain, bias []int8
	}{
		"a gain fewer":                   {wide(1, 2), narrow(1), narrow(1, 2)},
		"a bias fewer":                   {wide(1, 2), narrow(1, 2), narrow(1)},
		"both fewer":                     {wide(1, 2), narrow(1), narrow(1)},
		"no gain":                        {wide(1, 2), nil, narrow(1, 2)},
		"no bias":                        {wide(1, 2), narrow(1, 2), nil},
		"no number":                      {nil, narrow(1), narrow(1)},
		"unlike, and far from the mean":  {wide(most, -most, -most), narrow(1, 1), narrow(1, 1, 1)},
		"unlike all three":               {wide(1, 2), narrow(1), nil},
		"unlike, their sum is the right": {wide(1, 2), narrow(1), narrow(1, 2, 3)},
	} {
		fails(t, name, api.ErrArg)(norm.Layer(c.l, c.gain, c.bias))
	}
}

// 9.5
func TestLargest(t *testing.T) {
	for name, c := range map[string]struct {
		l    []int64
		want int64
		at   int
	}{
		"0":                     {wide(0), 0, 0},
		"zeros":                 {make([]int64, api.MaxDim), 0, 0},
		"one":                   {wide(5), 5, 0},
		"one below 0":           {wide(-5), 5, 0},
		"the last":              {wide(1, 2, 3), 3, 2},
		"the last, below 0":     {wide(1, 2, -3), 3, 2},
		"of alike the first":    {wide(1, 3, 3, -3), 3, 1},
		"also if it is below 0": {wide(1, -3, 3, 2), 3, 1},
		"all below 0":           {wide(-1, -9, -3), 9, 1},
		"the greatest":          {wide(0, most), most, 1},
		"the least":             {wide(0, -most), most, 1},
		"both ends":             {wide(most-1, -most, most), most, 1},
		"the last of the most":  {append(make([]int64, api.MaxDim-1), -1), 1, api.MaxDim - 1},
	} {
		if n, at, e := norm.Largest(c.l); n != c.want || at != c.at || e != api.OK {
			t.Errorf("%s: %d, %d, %d and not %d, %d", name, n, at, e, c.want, c.at)
		}
	}
}

// 9.5: by the promise's words: it stands there, none is greater, and none ahead is as great.
func TestLargestByItsWords(t *testing.T) {
	someRows(6, func(l []int64, _ *spread) {
		n, at, e := norm.Largest(l)
		if e != api.OK || at < 0 || at >= len(l) || max(l[at], -l[at]) != n {
			t.Fatal("Largest", l, n, at, e)
		}
		for i, x := range l {
			if size := max(x, -x); size > n || size == n && i < at {
				t.Fatal("Largest", l, n, at, i)
			}
		}
	})
}

// 9.5, R2, R6
func TestLargestOfWhatMayNotBe(t *testing.T) {
	for name, c := range refused() {
		if n, at, e := norm.Largest(c.l); n != 0 || at != 0 || e != c.e {
			t.Errorf("%s: %d, %d, %d and not %d", name, n, at, e, c.e)
		}
	}
}
