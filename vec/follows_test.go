package vec_test

import (
	"slices"
	"testing"

	"herald/api"
	"herald/vec"
)

// dotOf is a Dot of rows that go together.
func dotOf(t *testing.T, a, b []int8) int64 {
	t.Helper()
	return okay[int64](t, "Dot")(vec.Dot(a, b))
}

// 8.5
func TestDotTurnedAndCut(t *testing.T) {
	s := spread(11)
	for n := range 100 {
		a, b := s.row(n), s.row(n)
		whole := dotOf(t, a, b)
		if turned := dotOf(t, b, a); turned != whole {
			t.Error("turned", n, whole, turned)
		}
		at := s.below(n + 1)
		if parts := dotOf(t, a[:at], b[:at]) + dotOf(t, a[at:], b[at:]); parts != whole {
			t.Error("cut", n, at, whole, parts)
		}
	}
}

// 8.5: two matrices, one below the other; rows, whatever stands beside them.
func TestTimesOfParts(t *testing.T) {
	s, ok := spread(12), okay[[]int64](t, "Times")
	for rows := range 20 {
		cols := 1 + s.below(9)
		w, below := s.row(rows*cols), s.row(s.below(9)*cols)
		xs := make([][]int8, s.below(6))
		for i := range xs {
			xs[i] = s.row(cols)
			is(t, "Times", append(ok(vec.Times(w, cols, xs[i])), ok(vec.Times(below, cols, xs[i]))...))(vec.Times(append(slices.Clone(w), below...), cols, xs[i]))
		}
		batch := okay[[][]int64](t, "Batch")(vec.Batch(w, cols, xs))
		for i, x := range xs {
			is(t, "Batch", batch[i])(vec.Times(w, cols, x))
			alone := okay[[][]int64](t, "Batch")(vec.Batch(w, cols, [][]int8{x}))
			is(t, "alone", batch[i])(alone[0], api.OK)
		}
	}
}

// 8.5: and no lesser bound would do.
func TestDotIsBoundedBySizes(t *testing.T) {
	s := spread(13)
	for n := 1; n < 100; n++ {
		w, x := s.row(n), s.row(n)
		size := okay[[]int64](t, "Sizes")(vec.Sizes(w, n))[0]
		if dot := dotOf(t, w, x); dot > 128*size || dot < -128*size {
			t.Error("Dot", n, dot, size)
		}
		below := s.small(n, 127)
		for i, y := range below {
			if y > 0 {
				below[i] = -y
			}
		}
		size = okay[[]int64](t, "Sizes")(vec.Sizes(below, n))[0]
		dots(t, below, filled[int8](n, -128), 128*size)
	}
}

// 8.5
func TestShrinkOfWiden(t *testing.T) {
	want := every()
	want[0] = -127
	for shift := range 56 {
		wider := okay[[]int64](t, "Widen")(vec.Widen(every(), shift))
		is(t, "Shrink", want)(vec.Shrink(wider, shift))
	}
}

// 8.8
func TestTransposeTwice(t *testing.T) {
	s := spread(14)
	for rows := 1; rows < 12; rows++ {
		for cols := 1; cols < 12; cols++ {
			w := s.row(rows * cols)
			is(t, "twice", w)(vec.Transpose(okay[[]int8](t, "Transpose")(vec.Transpose(w, cols)), rows))
		}
	}
}

// 8.8
func TestRowsOfProduct(t *testing.T) {
	s := spread(15)
	for rows := 1; rows < 9; rows++ {
		ca, cb := 1+s.below(8), 1+s.below(8)
		a, b := s.row(rows*ca), s.row(ca*cb)
		product := okay[[]int64](t, "Product")(vec.Product(a, ca, b, cb))
		columns := okay[[]int8](t, "Transpose")(vec.Transpose(b, cb))
		for i := range rows {
			row := okay[[]int8](t, "Row")(vec.Row(a, ca, i))
			is(t, "row", product[i*cb:(i+1)*cb])(vec.Times(columns, ca, row))
		}
	}
}

// 8.8: what is packed is right, near, and stays, if it is small.
func TestPackedIsNear(t *testing.T) {
	somePacked(func(l []int8, group int) {
		p := okay[api.Packed](t, "Pack")(vec.Pack(l, group))
		says := okay[[]int8](t, "Unpack")(vec.Unpack(p))
		if len(says) != len(l) {
			t.Fatalf("%d numbers of %d", len(says), len(l))
		}
		for i, x := range l {
			shift := p.Shifts[i/group]
			far := int64(says[i]) - int64(x)
			if 2*far > 1<<shift || -2*far > 1<<shift {
				t.Fatalf("%d says %d by %d", x, says[i], shift)
			}
			part := l[i/group*group : min((i/group+1)*group, len(l))]
			if !slices.ContainsFunc(part, func(x int8) bool { return x < -7 || x > 7 }) && says[i] != x {
				t.Fatalf("%d says %d among small ones", x, says[i])
			}
		}
	})
}

// packed is some packed numbers that are right, of which many are none that Pack would give.
func (s *spread) packed(count, group int) api.Packed {
	p := api.Packed{Count: count, Group: group, Shifts: make([]byte, (count+group-1)/group), Halves: make([]byte, (count+1)/2)}
	for i := range p.Shifts {
		p.Shifts[i] = byte(s.below(6))
	}
	for i := range count {
		p.Halves[i/2] |= byte(s.below(15)-7) & 15 << (i % 2 * 4)
	}
	return p
}

// 8.8: packed again, it says the same.
func TestPackOfWhatIsSaid(t *testing.T) {
	again := func(p api.Packed) {
		t.Helper()
		says := okay[[]int8](t, "Unpack")(vec.Unpack(p))
		q := okay[api.Packed](t, "Pack")(vec.Pack(says, p.Group))
		is(t, "again", says)(vec.Unpack(q))
	}
	somePacked(func(l []int8, group int) { again(okay[api.Packed](t, "Pack")(vec.Pack(l, group))) })
	s := spread(16)
	for count := range 80 {
		for _, group := range []int{1, 2, 3, 7, 64, 256} {
			again(s.packed(count, group))
		}
	}
}
