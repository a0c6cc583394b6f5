package vec_test

import (
	"slices"
	"testing"

	"herald/api"
	"herald/vec"
)

// The chapter's first example.
func TestExampleOfDot(t *testing.T) {
	for _, c := range []struct {
		a, b []int8
		want int64
		e    api.Errno
	}{
		{narrow(1, -2, 3), narrow(4, 5, 6), 12, api.OK},
		{narrow(-128), narrow(-128), 16384, api.OK},
		{narrow(1), narrow(1, 2), 0, api.ErrLengths},
	} {
		if n, e := vec.Dot(c.a, c.b); n != c.want || e != c.e {
			t.Error("Dot", c, n, e)
		}
	}
}

// The second one.
func TestExampleOfMatrices(t *testing.T) {
	is(t, "Times", wide(-2, -2))(vec.Times(narrow(1, 2, 3, 4, 5, 6), 3, narrow(1, 0, -1)))
	fails[int64](t, "Times", api.ErrLengths)(vec.Times(narrow(1, 2, 3), 2, narrow(1, 1)))
	is(t, "Row", narrow(3, 4))(vec.Row(narrow(1, 2, 3, 4), 2, 1))
	fails[int8](t, "Row", api.ErrArg)(vec.Row(narrow(1, 2, 3, 4), 2, 2))
	is(t, "Sizes", wide(3, 128))(vec.Sizes(narrow(-1, 2, -128, 0), 2))
}

// The third one.
func TestExampleOfScales(t *testing.T) {
	is(t, "Shrink", narrow(127, -127, 2))(vec.Shrink(wide(300, -300, 5), 1))
	is(t, "Widen", wide(-512))(vec.Widen(narrow(-128), 2))
	fails[int64](t, "Add", api.ErrWrap)(vec.Add(wide(greatest), wide(1)))
}

// The fourth one.
func TestExampleOfProducts(t *testing.T) {
	is(t, "Transpose", narrow(1, 4, 2, 5, 3, 6))(vec.Transpose(narrow(1, 2, 3, 4, 5, 6), 3))
	is(t, "Product", wide(1, 2, 3, 4))(vec.Product(narrow(1, 2, 3, 4), 2, narrow(1, 0, 0, 1), 2))
	fails[int64](t, "Product", api.ErrLengths)(vec.Product(narrow(1, 2), 2, narrow(3, 4), 2))
}

// The fifth one.
func TestExampleOfPacked(t *testing.T) {
	p := okay[api.Packed](t, "Pack")(vec.Pack(narrow(7, -7, 100, 3), 2))
	if p.Count != 4 || p.Group != 2 || !slices.Equal(p.Shifts, []byte{0, 4}) || !slices.Equal(p.Halves, []byte{151, 6}) {
		t.Error("Pack", p)
	}
	is(t, "Unpack", narrow(7, -7, 96, 0))(vec.Unpack(p))
	if p, e := vec.Pack(narrow(1), 0); !isNoPacked(p) || e != api.ErrGroup {
		t.Error("Pack", p, e)
	}
	fails[int8](t, "Unpack", api.ErrPacked)(vec.Unpack(api.Packed{Count: 1, Group: 1, Shifts: []byte{0}, Halves: []byte{8}}))
}
