package norm_test

import (
	"testing"

	"herald/api"
	"herald/norm"
)

// roots asks for a root, and no error.
func roots(t *testing.T, what string, l []int64, want int64) {
	t.Helper()
	if r, e := norm.Root(l); r != want || e != api.OK {
		t.Errorf("%s: %d, %d and not %d", what, r, e, want)
	}
}

// 9.1
func TestRoot(t *testing.T) {
	for name, c := range map[string]struct {
		l    []int64
		want int64
	}{
		"0":                             {wide(0), 1},
		"zeros":                         {make([]int64, api.MaxDim), 1},
		"1":                             {wide(1), 1},
		"-1":                            {wide(-1), 1},
		"a mean below 1":                {wide(1, 0), 1},
		"one among many":                {append(make([]int64, api.MaxDim-1), 7), 1},
		"a mean just of 1":              {append(make([]int64, api.MaxDim-1), 8), 1},
		"a mean just below 4":           {append(make([]int64, api.MaxDim-1), 15), 1},
		"a mean just of 4":              {append(make([]int64, api.MaxDim-1), 16), 2},
		"the floor ahead of the root":   {wide(3, 4), 3},
		"the root rounded down":         {wide(4, 5, 5), 4},
		"signs have no part":            {wide(-4, 5, -5), 4},
		"of one its size":               {wide(-12345), 12345},
		"the greatest":                  {wide(most), most},
		"the least":                     {wide(-most), most},
		"as many of the greatest":       {filled[int64](api.MaxDim, most), most},
		"as many of the least":          {filled[int64](api.MaxDim, -most), most},
		"as many, but one is one lower": {append(filled[int64](api.MaxDim-1, most), most-1), most - 1},
		"the greatest among zeros":      {append(make([]int64, api.MaxDim-1), -most), most / 8},
	} {
		roots(t, name, c.l, c.want)
	}
}

// 9.1: held against numbers of any size.
func TestRootByItsWords(t *testing.T) {
	someRows(1, func(l []int64, _ *spread) { roots(t, "Root", l, rootOf(l).Int64()) })
	for n := int64(0); n < 5000; n++ {
		roots(t, "one", wide(n), max(1, n))
		roots(t, "two", wide(n, 1), rootOf(wide(n, 1)).Int64())
	}
}

// 9.1, R2, R6
func TestRootOfWhatMayNotBe(t *testing.T) {
	for name, c := range refused() {
		if r, e := norm.Root(c.l); r != 0 || e != c.e {
			t.Errorf("%s: %d, %d and not %d", name, r, e, c.e)
		}
	}
}

// 9.2
func TestRow(t *testing.T) {
	for name, c := range map[string]struct {
		l    []int64
		gain []int8
		want []int8
	}{
		"0":                           {wide(0), narrow(127), narrow(0)},
		"one is one":                  {wide(5), narrow(64), narrow(64)},
		"one below 0":                 {wide(-5), narrow(64), narrow(-64)},
		"the greatest":                {wide(most), narrow(100), narrow(100)},
		"the least":                   {wide(-most), narrow(100), narrow(-100)},
		"a gain of 0":                 {wide(3, 4), narrow(0, 0), narrow(0, 0)},
		"a gain below 0":              {wide(3, 4), narrow(-64, -64), narrow(-64, -85)},
		"the least gain, narrowed":    {wide(9), narrow(-128), narrow(-127)},
		"and against it":              {wide(-9), narrow(-128), narrow(127)},
		"the greatest gain":           {wide(9), narrow(127), narrow(127)},
		"each its own gain":           {wide(2, 2, 2), narrow(1, 2, 3), narrow(1, 2, 3)},
		"cut toward 0":                {wide(3, -4), narrow(64, 64), narrow(64, -85)},
		"cut ahead of the gain":       {wide(3, 4), narrow(64, 3), narrow(64, 4)},
		"cut, also above a half":      {wide(7, 5, -7, -5), narrow(64, 64, 64, 64), narrow(74, 53, -74, -53)},
		"one among zeros":             {wide(1, 0, 0, 0), narrow(1, 1, 1, 1), narrow(1, 0, 0, 0)},
		"far above the root":          {append(make([]int64, api.MaxDim-1), 15), filled[int8](api.MaxDim, 1), append(make([]int8, api.MaxDim-1), 15)},
		"far below it":                {append(make([]int64, api.MaxDim-1), -15), filled[int8](api.MaxDim, 8), append(make([]int8, api.MaxDim-1), -120)},
		"so far that it is narrowed":  {append(make([]int64, api.MaxDim-1), -15), filled[int8](api.MaxDim, 9), append(make([]int8, api.MaxDim-1), -127)},
		"as many of the greatest":     {filled[int64](api.MaxDim, most), filled[int8](api.MaxDim, 64), filled[int8](api.MaxDim, 64)},
		"as many of the least":        {filled[int64](api.MaxDim, -most), filled[int8](api.MaxDim, 64), filled[int8](api.MaxDim, -64)},
		"small ones beside great one": {wide(most, 1, -1), narrow(64, 127, 127), narrow(110, 0, 0)},
	} {
		is(t, name, c.want)(norm.Row(c.l, c.gain))
	}
}

// 9.2: halves that lie as near to two go to the even one, on both sides of 0.
func TestRowRoundsToTheEvenOne(t *testing.T) {
	// Of 2 and -1 the root is 1: t is 128 and -64; by a gain g the answers are 2 g and -g.
	is(t, "whole", narrow(6, -3))(norm.Row(wide(2, -1), narrow(3, 3)))
	// Of 3 and 1 the root is 2: t is 96 and 32; by a gain g the answers are the nearest of 3 g / 2 and of g / 2.
	for gain, want := range map[int8][]int8{1: {2, 0}, 2: {3, 1}, 3: {4, 2}, 5: {8, 2}, 7: {10, 4}, -1: {-2, 0}, -3: {-4, -2}, -5: {-8, -2}, -7: {-10, -4}} {
		is(t, "halves", want)(norm.Row(wide(3, 1), narrow(gain, gain)))
		is(t, "halves, negated", narrow(-want[0], -want[1]))(norm.Row(wide(-3, -1), narrow(gain, gain)))
	}
}

// 9.2: held against numbers of any size, by all gains.
func TestRowByItsWords(t *testing.T) {
	someRows(2, func(l []int64, s *spread) {
		none := make([]int8, len(l))
		for range 3 {
			gain := s.gains(len(l))
			is(t, "Row", layerOf(l, gain, none))(norm.Row(l, gain))
		}
	})
	for g := -128; g < 128; g++ {
		for _, l := range [][]int64{{1}, {-1}, {3, 4}, {-5, 7, 1}, {most, -1, 1 << 14}} {
			gain := filled(len(l), int8(g))
			is(t, "Row", layerOf(l, gain, make([]int8, len(l))))(norm.Row(l, gain))
		}
	}
}

// 9.2, R2, R6
func TestRowOfWhatMayNotBe(t *testing.T) {
	for name, c := range refused() {
		fails(t, name, c.e)(norm.Row(c.l, make([]int8, len(c.l))))
		fails(t, name+", a gain more", api.ErrArg)(norm.Row(c.l, make([]int8, len(c.l)+1)))
		if len(c.l) > 0 {
			fails(t, name+", a gain fewer", api.ErrArg)(norm.Row(c.l, make([]int8, len(c.l)-1)))
			fails(t, name+", no gain", api.ErrArg)(norm.Row(c.l, nil))
		}
	}
	fails(t, "a gain fewer", api.ErrArg)(norm.Row(wide(1, 2), narrow(1)))
	fails(t, "a gain more", api.ErrArg)(norm.Row(wide(1, 2), narrow(1, 2, 3)))
	fails(t, "no number", api.ErrArg)(norm.Row(nil, narrow(1)))
	fails(t, "no gain", api.ErrArg)(norm.Row(wide(1), nil))
}

// rowed asks for rows, the place 0, and no error.
func rowed(t *testing.T, what string, want [][]int8) func(got [][]int8, at int, e api.Errno) {
	return func(got [][]int8, at int, e api.Errno) {
		t.Helper()
		if len(got) != len(want) || at != 0 || e != api.OK {
			t.Fatalf("%s: %d rows, %d, %d and not %d", what, len(got), at, e, len(want))
		}
		for i := range want {
			is(t, what, want[i])(got[i], e)
		}
	}
}

// 9.3, R3
func TestRows(t *testing.T) {
	rowed(t, "nil", nil)(norm.Rows(nil, narrow(1, 2)))
	rowed(t, "none", nil)(norm.Rows([][]int64{}, nil))
	rowed(t, "none by a gain too long", nil)(norm.Rows(nil, make([]int8, api.MaxDim+1)))
	rowed(t, "one", [][]int8{{64, 85}})(norm.Rows([][]int64{{3, 4}}, narrow(64, 64)))
	rowed(t, "in their order, each by its own root", [][]int8{{64, 85}, {0, 0}, {64, -64}, {64, 85}})(norm.Rows([][]int64{{3, 4}, {0, 0}, {most, -most}, {3, 4}}, narrow(64, 64)))
	s := spread(3)
	for n := 1; n <= api.MaxDim; n += 7 {
		gain := s.gains(n)
		l, want := make([][]int64, 9), make([][]int8, 9)
		for i := range l {
			l[i] = s.row(n, 1<<(3*i))
			want[i] = okay[[]int8](t, "Row")(norm.Row(l[i], gain))
		}
		rowed(t, "Row of each", want)(norm.Rows(l, gain))
	}
}

// 9.3: very many rows; there is no bound to how many.
func TestRowsOfMany(t *testing.T) {
	l, want := make([][]int64, 100000), make([][]int8, 100000)
	for i := range l {
		l[i], want[i] = wide(int64(i)), narrow(7)
	}
	want[0] = narrow(0)
	rowed(t, "many", want)(norm.Rows(l, narrow(7)))
}

// 9.3, R2: the first one that Row refuses, not the one with the first error, nor the last one.
func TestRowsOfWhatMayNotBe(t *testing.T) {
	two, great, short := wide(1, 2), wide(0, most+1), wide(1)
	for name, c := range map[string]struct {
		l    [][]int64
		gain []int8
		at   int
		e    api.Errno
	}{
		"the only one":             {[][]int64{great}, narrow(1, 1), 0, api.ErrReach},
		"the first":                {[][]int64{short, two, two}, narrow(1, 1), 0, api.ErrArg},
		"the last":                 {[][]int64{two, two, great}, narrow(1, 1), 2, api.ErrReach},
		"too great, then short":    {[][]int64{two, great, short}, narrow(1, 1), 1, api.ErrReach},
		"short, then too great":    {[][]int64{two, two, short, great}, narrow(1, 1), 2, api.ErrArg},
		"nil among them":           {[][]int64{two, nil}, narrow(1, 1), 1, api.ErrArg},
		"no gain":                  {[][]int64{two}, nil, 0, api.ErrArg},
		"no gain, no number":       {[][]int64{nil}, nil, 0, api.ErrArg},
		"too many numbers of each": {[][]int64{make([]int64, api.MaxDim+1)}, make([]int8, api.MaxDim+1), 0, api.ErrArg},
		"the least number":         {[][]int64{two, {least, least}}, narrow(1, 1), 1, api.ErrReach},
	} {
		if l, at, e := norm.Rows(c.l, c.gain); len(l) != 0 || at != c.at || e != c.e {
			t.Errorf("%s: %v, %d, %d and not %d, %d", name, l, at, e, c.at, c.e)
		}
	}
}
