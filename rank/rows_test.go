package rank_test

import (
	"math"
	"slices"
	"testing"

	"herald/api"
	"herald/rank"
)

const mostParts = 2147483648

// quantile asks for a number and no error.
func quantile(t *testing.T, l []int64, num, den int, want int64) {
	t.Helper()
	if got, e := rank.Quantile(l, num, den); got != want || e != api.OK {
		t.Errorf("%d over %d of %v: %d, %d and not %d", num, den, l, got, e, want)
	}
}

// 7.5, R2: a wrong part is told ahead of an empty list.
func TestQuantileOfAWrongPart(t *testing.T) {
	for _, part := range [][2]int{
		{0, 0}, {0, -1}, {0, math.MinInt}, {0, mostParts + 1}, {0, math.MaxInt}, {math.MaxInt, math.MaxInt}, {-1, -1},
		{-1, 1}, {-1, mostParts}, {math.MinInt, 2}, {2, 1}, {3, 2}, {mostParts + 1, mostParts}, {math.MaxInt, 1}, {1, 0},
	} {
		for _, l := range [][]int64{{5, 1, 9}, {7}, nil, {}} {
			if got, e := rank.Quantile(l, part[0], part[1]); got != 0 || e != api.ErrArg {
				t.Errorf("%d over %d of %v: %d, %d", part[0], part[1], l, got, e)
			}
		}
	}
	for _, l := range [][]int64{nil, {}} {
		for _, part := range [][2]int{{0, 1}, {1, 1}, {1, 2}, {mostParts, mostParts}} {
			if got, e := rank.Quantile(l, part[0], part[1]); got != 0 || e != api.ErrEmpty {
				t.Errorf("%d over %d of nothing: %d, %d", part[0], part[1], got, e)
			}
		}
	}
}

// 7.5
func TestQuantile(t *testing.T) {
	for _, part := range [][2]int{{0, 1}, {1, 1}, {1, 2}, {0, mostParts}, {1, mostParts}, {mostParts, mostParts}} {
		quantile(t, []int64{-7}, part[0], part[1], -7)
		quantile(t, []int64{4, 4, 4}, part[0], part[1], 4)
	}
	four := []int64{30, 10, 40, 20}
	for _, c := range []struct {
		num, den int
		want     int64
	}{
		{0, 1, 10}, {1, 1, 40}, {1, 2, 20}, {1, 3, 20}, {2, 3, 30}, {3, 3, 40}, {1, 4, 10}, {2, 4, 20}, {3, 4, 30}, {4, 4, 40},
		{99, 100, 30}, {100, 100, 40}, {33, 100, 10}, {34, 100, 20}, {0, mostParts, 10}, {mostParts, mostParts, 40},
		{mostParts - 1, mostParts, 30}, {mostParts / 2, mostParts, 20}, {mostParts / 3, mostParts, 10}, {mostParts/3 + 1, mostParts, 20},
	} {
		quantile(t, four, c.num, c.den, c.want)
	}
	ends := []int64{0, greatest, least, greatest, least}
	for num, want := range []int64{least, least, 0, greatest, greatest} {
		quantile(t, ends, num, 4, want)
	}
}

// 7.5: each place of lists of some lengths, held against a sorted list.
func TestQuantileByItsWords(t *testing.T) {
	s := spread(13)
	for _, l := range someLists()[1:] {
		rising := slices.Clone(l)
		slices.Sort(rising)
		for range 20 {
			den := 1 + s.below(1+s.below(mostParts-1))
			num := s.below(den + 1)
			if len(l) > 0 {
				quantile(t, l, num, den, rising[(len(l)-1)*num/den])
			}
		}
		for i, n := range rising {
			if len(l) > 1 {
				quantile(t, l, i, len(l)-1, n)
			}
		}
	}
}

// 7.5
func TestHistogramOfWrongEdges(t *testing.T) {
	for _, edges := range [][]int64{{1, 1}, {2, 1}, {1, 2, 2}, {1, 3, 2}, {3, 1, 2}, {greatest, least}, {least, least}, {0, 1, 2, 3, 4, 5, 4}, {greatest, greatest}} {
		for _, l := range [][]int64{nil, {}, {1}, {5, 1, 9}} {
			got, e := rank.Histogram(l, edges)
			fails(t, "Histogram", got, e, api.ErrUnsorted)
		}
	}
}

// 7.5
func TestHistogram(t *testing.T) {
	ok := okay[int](t, "Histogram")
	for name, c := range map[string]struct {
		l, edges []int64
		want     []int
	}{
		"nothing":                {nil, nil, []int{0}},
		"no edges":               {[]int64{3, 1, 2}, nil, []int{3}},
		"empty edges":            {[]int64{3}, []int64{}, []int{1}},
		"no numbers":             {nil, []int64{1, 2}, []int{0, 0, 0}},
		"one edge, below":        {[]int64{4, 4}, []int64{5}, []int{2, 0}},
		"one edge, on it":        {[]int64{5}, []int64{5}, []int{0, 1}},
		"one edge, above":        {[]int64{6}, []int64{5}, []int{0, 1}},
		"next to the edges":      {[]int64{4, 5, 6, 8, 9, 10}, []int64{5, 9}, []int{1, 3, 2}},
		"edges side by side":     {[]int64{2, 1, 3, 2, 0}, []int64{1, 2, 3}, []int{1, 1, 2, 1}},
		"all on edges":           {[]int64{3, 2, 1, 3}, []int64{1, 2, 3}, []int{0, 1, 1, 2}},
		"equal numbers":          {[]int64{7, 7, 7}, []int64{6, 8}, []int{0, 3, 0}},
		"the ends as edges":      {[]int64{least, least + 1, greatest, 0, greatest - 1}, []int64{least, greatest}, []int{0, 4, 1}},
		"the ends as numbers":    {[]int64{least, greatest, greatest}, []int64{-1, 1}, []int{1, 0, 2}},
		"below 0":                {[]int64{-5, -3, -4}, []int64{-4, -3}, []int{1, 1, 1}},
		"numbers in no order":    {[]int64{9, 1, 5, 1, 9, 9}, []int64{5, 9}, []int{2, 1, 3}},
		"more edges than needed": {[]int64{50}, []int64{0, 10, 20, 30, 40, 60, 70}, []int{0, 0, 0, 0, 0, 1, 0, 0}},
	} {
		is(t, name, ok(rank.Histogram(c.l, c.edges)), c.want...)
	}
}

// 7.5: held against the promise's words.
func TestHistogramByItsWords(t *testing.T) {
	s := spread(14)
	for _, l := range someLists() {
		edges := s.list(s.below(20), -600, 1200)
		slices.Sort(edges)
		edges = slices.Compact(edges)
		var want []int
		for i := range len(edges) + 1 {
			n := 0
			for _, x := range l {
				if (i == 0 || x >= edges[i-1]) && (i == len(edges) || x < edges[i]) {
					n++
				}
			}
			want = append(want, n)
		}
		is(t, "Histogram", okay[int](t, "Histogram")(rank.Histogram(l, edges)), want...)
	}
}

// 7.6
func TestMergeOfWhatRises(t *testing.T) {
	for _, lists := range [][][]int64{
		{{1, 2}}, {{3, 1, 2}}, {{3, 2}, {1, 2}}, {{1, 2}, {3, 2}}, {nil, {5}, {least, greatest}, nil}, {{2, 2, 3}}, {{9, 8, 7, 6, 7}}, {{-2, -1}},
	} {
		got, e := rank.Merge(lists)
		fails(t, "Merge", got, e, api.ErrUnsorted)
	}
}

// 7.6
func TestMerge(t *testing.T) {
	ok := okay[int64](t, "Merge")
	for name, c := range map[string]struct {
		lists [][]int64
		want  []int64
	}{
		"nil":             {nil, nil},
		"no list":         {[][]int64{}, nil},
		"an empty list":   {[][]int64{{}}, nil},
		"empty lists":     {[][]int64{nil, {}, nil}, nil},
		"one":             {[][]int64{{3, 1, -2}}, []int64{3, 1, -2}},
		"one among none":  {[][]int64{nil, {3, 1}, {}, {}}, []int64{3, 1}},
		"behind another":  {[][]int64{{1, 0}, {5, 4}}, []int64{5, 4, 1, 0}},
		"by turns":        {[][]int64{{9, 5, 1}, {8, 4}, {7, 3}}, []int64{9, 8, 7, 5, 4, 3, 1}},
		"equal ones":      {[][]int64{{2, 2}, {2}, {3, 2, 1}}, []int64{3, 2, 2, 2, 2, 1}},
		"the same twice":  {[][]int64{{5, 1}, {5, 1}}, []int64{5, 5, 1, 1}},
		"the ends":        {[][]int64{{greatest, least}, {0}, {greatest, least}}, []int64{greatest, greatest, 0, least, least}},
		"lists of one":    {[][]int64{{1}, {5}, {3}, {2}, {4}}, []int64{5, 4, 3, 2, 1}},
		"one that stands": {[][]int64{{4, 4, 4}}, []int64{4, 4, 4}},
	} {
		is(t, name, ok(rank.Merge(c.lists)), c.want...)
	}
}

// 7.6: lists of some numbers, held against all numbers sorted.
func TestMergeByItsWords(t *testing.T) {
	s := spread(15)
	falling := func(l []int64) []int64 { slices.Sort(l); slices.Reverse(l); return l }
	for count := range 30 {
		for _, bound := range []int{1, 4, 1000} {
			var lists [][]int64
			var all []int64
			for range count {
				l := falling(s.list(s.below(40), -500, bound))
				lists, all = append(lists, l), append(all, l...)
			}
			is(t, "Merge", okay[int64](t, "Merge")(rank.Merge(lists)), falling(all)...)
		}
	}
}

// 7.6: very many lists.
func TestMergeOfManyLists(t *testing.T) {
	lists, want := make([][]int64, 100000), make([]int64, 100000)
	for i := range lists {
		lists[i] = []int64{int64(i)}
		want[len(want)-1-i] = int64(i)
	}
	is(t, "Merge", okay[int64](t, "Merge")(rank.Merge(lists)), want...)
}

// 7.6
func TestInversions(t *testing.T) {
	for name, c := range map[string]struct {
		l    []int64
		want int
	}{
		"nil":      {nil, 0},
		"empty":    {[]int64{}, 0},
		"one":      {[]int64{3}, 0},
		"equal":    {[]int64{3, 3, 3}, 0},
		"falling":  {[]int64{3, 2, 1}, 0},
		"rising":   {[]int64{1, 2, 3, 4}, 6},
		"equal up": {[]int64{1, 1, 2, 2}, 4},
		"the ends": {[]int64{least, greatest, least, greatest}, 3},
		"by turns": {[]int64{1, 2, 1, 2, 1}, 3},
	} {
		if got := rank.Inversions(c.l); got != c.want {
			t.Errorf("%s: %d and not %d", name, got, c.want)
		}
	}
	for _, l := range someLists() {
		want := 0
		for k := range l {
			for i := range k {
				if l[i] < l[k] {
					want++
				}
			}
		}
		if got := rank.Inversions(l); got != want {
			t.Errorf("%v: %d and not %d", l, got, want)
		}
	}
}

// 7.6: more pairs than 32 bits can count.
func TestInversionsOfALongList(t *testing.T) {
	const n = 200000
	l := make([]int64, n)
	for i := range l {
		l[i] = int64(i)
	}
	if got := rank.Inversions(l); got != n*(n-1)/2 {
		t.Error("Inversions:", got)
	}
}
