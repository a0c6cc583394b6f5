package vec_test

import (
	"math"
	"testing"

	"herald/api"
	"herald/vec"
)

// 8.6, R3
func TestTranspose(t *testing.T) {
	is(t, "no rows", narrow())(vec.Transpose(nil, 3))
	is(t, "no rows, the greatest columns", narrow())(vec.Transpose(narrow(), math.MaxInt))
	is(t, "one of one", narrow(-128))(vec.Transpose(narrow(-128), 1))
	is(t, "one row", narrow(1, 2, 3))(vec.Transpose(narrow(1, 2, 3), 3))
	is(t, "one column", narrow(1, 2, 3))(vec.Transpose(narrow(1, 2, 3), 1))
	is(t, "of one side", narrow(1, 4, 7, 2, 5, 8, 3, 6, 9))(vec.Transpose(narrow(1, 2, 3, 4, 5, 6, 7, 8, 9), 3))
	for rows := 1; rows < 14; rows++ {
		for cols := 1; cols < 14; cols++ {
			transposes(t, rows, cols)
		}
	}
	transposes(t, 1024, 1024)
	transposes(t, 1, api.MaxCells)
	transposes(t, api.MaxCells, 1)
}

// transposes asks for each number of a matrix at its place.
func transposes(t *testing.T, rows, cols int) {
	t.Helper()
	w := spread(rows*cols).matrix(rows, cols)
	got := okay[[]int8](t, "Transpose")(vec.Transpose(w, cols))
	if len(got) != len(w) {
		t.Fatalf("%d by %d: %d numbers", rows, cols, len(got))
	}
	for i, x := range got {
		if row, col := i%rows, i/rows; x != w[row*cols+col] {
			t.Fatalf("%d by %d: %d at %d", rows, cols, x, i)
		}
	}
}

// 8.6, R3
func TestProduct(t *testing.T) {
	is(t, "no rows", wide())(vec.Product(nil, 2, narrow(1, 2, 3, 4), 2))
	is(t, "one by one", wide(16384))(vec.Product(narrow(-128), 1, narrow(-128), 1))
	is(t, "a row by a column", wide(12))(vec.Product(narrow(1, -2, 3), 3, narrow(4, 5, 6), 1))
	is(t, "a column by a row", wide(4, 5, 6, -8, -10, -12))(vec.Product(narrow(1, -2), 1, narrow(4, 5, 6), 3))
	is(t, "the columns turned", wide(2, 1, 4, 3))(vec.Product(narrow(1, 2, 3, 4), 2, narrow(0, 1, 1, 0), 2))
	is(t, "the rows turned", wide(3, 4, 1, 2))(vec.Product(narrow(0, 1, 1, 0), 2, narrow(1, 2, 3, 4), 2))
}

// 8.6: held against numbers of any size.
func TestProductByItsWords(t *testing.T) {
	s := spread(7)
	for rows := range 7 {
		for inner := 1; inner < 7; inner++ {
			for cols := 1; cols < 7; cols++ {
				a, b := s.row(rows*inner), s.row(inner*cols)
				want := make([]int64, rows*cols)
				for i := range want {
					want[i] = summed(a, i/cols*inner, 1, b, i%cols, cols, inner)
				}
				is(t, "Product", want)(vec.Product(a, inner, b, cols))
			}
		}
	}
}

// 8.6, R6: as much as may be handed in and come out, and one more.
func TestProductOfTheMost(t *testing.T) {
	most := filled[int8](api.MaxCells, -128)
	is(t, "one", wide(1<<34))(vec.Product(most, api.MaxCells, most, 1))
	is(t, "as many rows", filled[int64](api.MaxCells, 16384))(vec.Product(most, 1, narrow(-128), 1))
	is(t, "as many columns", filled[int64](api.MaxCells, -16256))(vec.Product(narrow(127), 1, most, api.MaxCells))
	is(t, "a square", filled[int64](api.MaxCells, 16384))(vec.Product(most[:1024], 1, most[:1024], 1024))
	for name, c := range map[string]struct{ rows, inner, cols int }{
		"a row more":              {1025, 1, 1024},
		"a column more":           {1024, 1, 1025},
		"of the most, two":        {api.MaxCells, 1, 2},
		"of the most, a row more": {2, 1, api.MaxCells},
		"as much as can be":       {api.MaxCells, 1, api.MaxCells},
		"with rows of two":        {api.MaxCells / 2, 2, 3},
	} {
		fails[int64](t, name, api.ErrCells)(vec.Product(most[:c.rows*c.inner], c.inner, most[:c.inner*c.cols], c.cols))
	}
}

// 8.6, R2
func TestProductOfWrongMatrices(t *testing.T) {
	more, square := make([]int8, api.MaxCells+1), narrow(1, 2, 3, 4)
	for name, c := range map[string]struct {
		a    []int8
		ca   int
		b    []int8
		cb   int
		want api.Errno
	}{
		"a too long":                       {more, 1, narrow(1), 1, api.ErrCells},
		"b too long":                       {narrow(1), 1, more, api.MaxCells + 1, api.ErrCells},
		"both":                             {more, 1, more, 1, api.ErrCells},
		"b too long, no columns of a":      {square, 0, more, 1, api.ErrCells},
		"b too long, a no multiple":        {square, 3, more, 1, api.ErrCells},
		"a too long, no columns of b":      {more, 1, square, 0, api.ErrCells},
		"a too long, b has not as many":    {more, 2, square, 2, api.ErrCells},
		"no columns of a":                  {square, 0, square, 2, api.ErrLengths},
		"columns of a below":               {square, -2, square, 2, api.ErrLengths},
		"no columns of b":                  {square, 2, square, 0, api.ErrLengths},
		"columns of b below":               {square, 2, square, -2, api.ErrLengths},
		"the ends":                         {square, math.MinInt, square, math.MaxInt, api.ErrLengths},
		"no columns of nothing":            {nil, 0, nil, 0, api.ErrLengths},
		"a no multiple":                    {square, 3, narrow(1, 2, 3), 1, api.ErrLengths},
		"b no multiple":                    {square, 2, square, 3, api.ErrLengths},
		"b has more rows":                  {square, 2, square, 1, api.ErrLengths},
		"b has fewer rows":                 {square, 4, square, 2, api.ErrLengths},
		"b has none":                       {square, 2, nil, 2, api.ErrLengths},
		"both have none":                   {nil, 1, nil, 1, api.ErrLengths},
		"the greatest columns of nothing":  {nil, math.MaxInt, nil, math.MaxInt, api.ErrLengths},
		"b has fewer rows, too much comes": {more[1:], 2, more[1:], api.MaxCells, api.ErrLengths},
	} {
		fails[int64](t, name, c.want)(vec.Product(c.a, c.ca, c.b, c.cb))
	}
}
