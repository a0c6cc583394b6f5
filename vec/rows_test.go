package vec_test

import (
	"math"
	"testing"

	"herald/api"
	"herald/vec"
)

// dots asks for a Dot and for no error.
func dots(t *testing.T, a, b []int8, want int64) {
	t.Helper()
	if n, e := vec.Dot(a, b); n != want || e != api.OK {
		t.Errorf("Dot of %d and %d: %d, %d and not %d", len(a), len(b), n, e, want)
	}
}

// 8.1, R3
func TestDot(t *testing.T) {
	dots(t, nil, nil, 0)
	dots(t, narrow(), nil, 0)
	dots(t, narrow(0), narrow(-128), 0)
	dots(t, narrow(127), narrow(127), 16129)
	dots(t, narrow(-128), narrow(127), -16256)
	dots(t, narrow(127, -128), narrow(-128, 127), -32512)
	for _, a := range every() {
		for _, b := range every() {
			dots(t, narrow(a), narrow(b), int64(a)*int64(b))
			dots(t, narrow(a, b), narrow(b, a), 2*int64(a)*int64(b))
		}
	}
}

// 8.1: held against numbers of any size.
func TestDotByItsWords(t *testing.T) {
	s := spread(1)
	for n := range 200 {
		a, b := s.row(n), s.row(n)
		dots(t, a, b, summed(a, 0, 1, b, 0, 1, n))
	}
}

// 8.1, R6: as many as may be, of the greatest size, and one more.
func TestDotOfTheMost(t *testing.T) {
	low, high := filled[int8](api.MaxCells, -128), filled[int8](api.MaxCells, 127)
	dots(t, low, low, 1<<34)
	dots(t, high, high, 16129<<20)
	dots(t, low, high, -16256<<20)
	more := filled[int8](api.MaxCells+1, 1)
	for name, c := range map[string]struct {
		a, b []int8
		want api.Errno
	}{
		"both too long":             {more, more, api.ErrCells},
		"the first":                 {more, narrow(1), api.ErrCells},
		"the second":                {narrow(1), more, api.ErrCells},
		"the first, by one":         {more, low, api.ErrCells},
		"the second, beside none":   {nil, more, api.ErrCells},
		"the most and one too few":  {low, low[1:], api.ErrLengths},
		"none and one":              {nil, narrow(1), api.ErrLengths},
		"one and none":              {narrow(0), nil, api.ErrLengths},
		"two and three":             {narrow(1, 2), narrow(1, 2, 3), api.ErrLengths},
		"three and two, spare room": {more[:3:9], more[:2:9], api.ErrLengths},
	} {
		if n, e := vec.Dot(c.a, c.b); n != 0 || e != c.want {
			t.Errorf("%s: %d, %d and not %d", name, n, e, c.want)
		}
	}
}

// 8.2, R3
func TestTimes(t *testing.T) {
	for name, c := range map[string]struct {
		w    []int8
		cols int
		x    []int8
		want []int64
	}{
		"no row":                {nil, 2, narrow(1, 2), nil},
		"no row, empty":         {narrow(), 1, narrow(-7), nil},
		"no row, many columns":  {nil, api.MaxCells + 1, filled[int8](api.MaxCells+1, 1), nil},
		"one of one":            {narrow(-128), 1, narrow(-128), wide(16384)},
		"rows of one":           {narrow(1, -2, 3), 1, narrow(-5), wide(-5, 10, -15)},
		"one row":               {narrow(1, -2, 3), 3, narrow(4, 5, 6), wide(12)},
		"the least":             {narrow(-128, 127, 127, -128), 2, narrow(-128, 127), wide(32513, -32512)},
		"rows in their order":   {narrow(1, 0, 0, 0, 1, 0, 0, 0, 1), 3, narrow(7, 8, 9), wide(7, 8, 9)},
		"places in their order": {narrow(1, 2, 3, 4), 2, narrow(10, 1), wide(12, 34)},
	} {
		is(t, name, c.want)(vec.Times(c.w, c.cols, c.x))
	}
}

// 8.2: held against numbers of any size.
func TestTimesByItsWords(t *testing.T) {
	s := spread(2)
	for rows := range 12 {
		for cols := 1; cols < 12; cols++ {
			w, x := s.row(rows*cols), s.row(cols)
			want := make([]int64, rows)
			for i := range want {
				want[i] = summed(w, i*cols, 1, x, 0, 1, cols)
			}
			is(t, "Times", want)(vec.Times(w, cols, x))
		}
	}
}

// 8.2: a matrix as great as may be.
func TestTimesOfTheMost(t *testing.T) {
	w := filled[int8](api.MaxCells, -128)
	is(t, "one row", wide(1<<34))(vec.Times(w, api.MaxCells, w))
	is(t, "rows of one", filled[int64](api.MaxCells, -16256))(vec.Times(w, 1, narrow(127)))
	is(t, "as many rows", filled[int64](1024, 1<<24))(vec.Times(w, 1024, w[:1024]))
}

// wrongMatrix is lists and columns that make no matrix, and the error of each.
func wrongMatrix() map[string]struct {
	w    []int8
	cols int
	e    api.Errno
} {
	more := make([]int8, api.MaxCells+1)
	return map[string]struct {
		w    []int8
		cols int
		e    api.Errno
	}{
		"too long":                {more, 1, api.ErrCells},
		"too long, one row":       {more, api.MaxCells + 1, api.ErrCells},
		"too long, no multiple":   {more, 2, api.ErrCells},
		"too long, no columns":    {more, 0, api.ErrCells},
		"too long, columns below": {more, -1, api.ErrCells},
		"no columns":              {narrow(1, 2), 0, api.ErrLengths},
		"no columns, no numbers":  {nil, 0, api.ErrLengths},
		"columns below 0":         {narrow(1, 2), -1, api.ErrLengths},
		"columns below, none":     {nil, -2, api.ErrLengths},
		"the least columns":       {narrow(1, 2), math.MinInt, api.ErrLengths},
		"no multiple":             {narrow(1, 2, 3), 2, api.ErrLengths},
		"more columns":            {narrow(1, 2), 3, api.ErrLengths},
		"the greatest columns":    {narrow(1, 2), math.MaxInt, api.ErrLengths},
		"the most by 3":           {more[1:], 3, api.ErrLengths},
	}
}

// 8.2, 8.6, R2: what is no matrix, with what else may be wrong or not.
func TestWhatIsNoMatrix(t *testing.T) {
	for name, c := range wrongMatrix() {
		for _, x := range [][]int8{nil, narrow(1), make([]int8, max(0, min(c.cols, 9)))} {
			fails[int64](t, "Times, "+name, c.e)(vec.Times(c.w, c.cols, x))
			fails[[]int64](t, "Batch, "+name, c.e)(vec.Batch(c.w, c.cols, [][]int8{x}))
		}
		fails[[]int64](t, "Batch of none, "+name, c.e)(vec.Batch(c.w, c.cols, nil))
		for _, i := range []int{math.MinInt, -1, 0, 1, math.MaxInt} {
			fails[int8](t, "Row, "+name, c.e)(vec.Row(c.w, c.cols, i))
		}
		fails[int64](t, "Sizes, "+name, c.e)(vec.Sizes(c.w, c.cols))
		fails[int8](t, "Transpose, "+name, c.e)(vec.Transpose(c.w, c.cols))
	}
}

// 8.2: a row that does not go with the columns.
func TestTimesOfAWrongRow(t *testing.T) {
	w := narrow(1, 2, 3, 4, 5, 6)
	for _, x := range [][]int8{nil, {}, {1}, {1, 2}, {1, 2, 3, 4}, w, make([]int8, api.MaxCells+1)} {
		fails[int64](t, "Times", api.ErrLengths)(vec.Times(w, 3, x))
		fails[int64](t, "Times of no row", api.ErrLengths)(vec.Times(nil, 3, x))
		fails[[]int64](t, "Batch, first", api.ErrLengths)(vec.Batch(w, 3, [][]int8{x, {1, 2, 3}}))
		fails[[]int64](t, "Batch, last", api.ErrLengths)(vec.Batch(w, 3, [][]int8{{1, 2, 3}, {0, 0, 0}, x}))
		fails[[]int64](t, "Batch of no row", api.ErrLengths)(vec.Batch(nil, 3, [][]int8{{1, 2, 3}, x}))
	}
	fails[int64](t, "the greatest columns", api.ErrLengths)(vec.Times(nil, math.MaxInt, nil))
}

// batched asks for rows, and no error.
func batched(t *testing.T, what string, want [][]int64) func(got [][]int64, e api.Errno) {
	return func(got [][]int64, e api.Errno) {
		t.Helper()
		if len(got) != len(want) || e != api.OK {
			t.Fatalf("%s: %d rows, %d and not %d", what, len(got), e, len(want))
		}
		for i := range want {
			is(t, what, want[i])(got[i], e)
		}
	}
}

// 8.2, R3
func TestBatch(t *testing.T) {
	w := narrow(1, 2, 3, 4, 5, 6)
	batched(t, "nil", nil)(vec.Batch(w, 3, nil))
	batched(t, "none", nil)(vec.Batch(w, 3, [][]int8{}))
	batched(t, "no columns of none", nil)(vec.Batch(nil, math.MaxInt, nil))
	batched(t, "no rows", [][]int64{nil, nil})(vec.Batch(nil, 3, [][]int8{{1, 2, 3}, {4, 5, 6}}))
	batched(t, "one", [][]int64{{-2, -2}})(vec.Batch(w, 3, [][]int8{{1, 0, -1}}))
	batched(t, "some", [][]int64{{1, 4}, {-2, -2}, {1, 4}, {6, 15}})(vec.Batch(w, 3, [][]int8{{1, 0, 0}, {1, 0, -1}, {1, 0, 0}, {1, 1, 1}}))
}

// 8.2: very many rows.
func TestBatchOfMany(t *testing.T) {
	xs, want := make([][]int8, 100000), make([][]int64, 100000)
	for i := range xs {
		xs[i], want[i] = narrow(int8(i)), wide(2*int64(int8(i)))
	}
	batched(t, "many", want)(vec.Batch(narrow(2), 1, xs))
}

// 8.2
func TestRow(t *testing.T) {
	w := spread(3).matrix(7, 5)
	for i := range 7 {
		is(t, "Row", w[i*5:i*5+5])(vec.Row(w, 5, i))
	}
	is(t, "one row", w)(vec.Row(w, 35, 0))
	for i := range w {
		is(t, "rows of one", w[i:i+1])(vec.Row(w, 1, i))
	}
	for _, i := range []int{math.MinInt, -7, -1, 7, 8, 35, 1 << 62, math.MaxInt} {
		fails[int8](t, "no such row", api.ErrArg)(vec.Row(w, 5, i))
	}
	for _, cols := range []int{1, 5, math.MaxInt} {
		for _, i := range []int{-1, 0, 1} {
			fails[int8](t, "no row at all", api.ErrArg)(vec.Row(nil, cols, i))
		}
	}
	most := spread(4).matrix(1024, 1024)
	is(t, "the last of the most", most[1023*1024:])(vec.Row(most, 1024, 1023))
	is(t, "the most", most)(vec.Row(most, api.MaxCells, 0))
	fails[int8](t, "one past the most", api.ErrArg)(vec.Row(most, 1, api.MaxCells))
}

// matrix is a matrix of so many rows and columns.
func (s spread) matrix(rows, cols int) []int8 { return s.row(rows * cols) }

// 8.2, R3
func TestSizes(t *testing.T) {
	is(t, "no rows", wide())(vec.Sizes(nil, 3))
	is(t, "no rows, the greatest columns", wide())(vec.Sizes(narrow(), math.MaxInt))
	is(t, "0", wide(0))(vec.Sizes(narrow(0, 0, 0), 3))
	is(t, "signs have no part", wide(6, 6, 6))(vec.Sizes(narrow(1, 2, 3, -1, 2, -3, -3, -2, -1), 3))
	is(t, "the ends", wide(128, 127, 127))(vec.Sizes(narrow(-128, 127, -127), 1))
	is(t, "the most", wide(1<<27))(vec.Sizes(filled[int8](api.MaxCells, -128), api.MaxCells))
	is(t, "the most rows", filled[int64](api.MaxCells, 128))(vec.Sizes(filled[int8](api.MaxCells, -128), 1))
	var all int64
	for _, x := range every() {
		size := int64(x)
		if size < 0 {
			size = -size
		}
		all += size
		is(t, "one", wide(size))(vec.Sizes(narrow(x), 1))
	}
	is(t, "all", wide(all))(vec.Sizes(every(), 256))
}
