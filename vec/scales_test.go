package vec_test

import (
	"math"
	"math/big"
	"testing"

	"herald/api"
	"herald/vec"
)

// 8.3, R3
func TestAdd(t *testing.T) {
	is(t, "none", wide())(vec.Add(nil, wide()))
	is(t, "one", wide(3))(vec.Add(wide(1), wide(2)))
	is(t, "place by place", wide(11, 22, -33))(vec.Add(wide(1, 2, -3), wide(10, 20, -30)))
	is(t, "the ends", wide(-1, -1, greatest, least))(vec.Add(wide(least, greatest, greatest, 0), wide(greatest, least, 0, least)))
	is(t, "just so", wide(greatest, least, greatest, least))(vec.Add(wide(greatest-1, least+1, 1<<62, -1<<62), wide(1, -1, 1<<62-1, -1<<62)))
	most := filled[int64](api.MaxCells, -7)
	is(t, "the most", filled[int64](api.MaxCells, -14))(vec.Add(most, most))
}

// 8.3: held against numbers of any size.
func TestAddByItsWords(t *testing.T) {
	l := append(edges(), spread(5).list64(500)...)
	for i, a := range l {
		for _, b := range l[:min(i+1, 200)] {
			sum := new(big.Int).Add(big.NewInt(a), big.NewInt(b))
			if sum.IsInt64() {
				is(t, "Add", wide(sum.Int64()))(vec.Add(wide(a), wide(b)))
			} else {
				fails[int64](t, "Add", api.ErrWrap)(vec.Add(wide(a), wide(b)))
				fails[int64](t, "Add, the last", api.ErrWrap)(vec.Add(wide(1, 2, a), wide(3, 4, b)))
				fails[int64](t, "Add, the first", api.ErrWrap)(vec.Add(wide(a, -a, 0), wide(b, 1, 0)))
			}
		}
	}
}

// list64 is n numbers of 64 bits.
func (s spread) list64(n int) []int64 { return s.wide(n) }

// 8.3, R2
func TestAddOfWrongLists(t *testing.T) {
	most, more := make([]int64, api.MaxCells), make([]int64, api.MaxCells+1)
	for name, c := range map[string]struct {
		a, b []int64
		want api.Errno
	}{
		"both too long":           {more, more, api.ErrCells},
		"the first":               {more, wide(1), api.ErrCells},
		"the second":              {wide(1), more, api.ErrCells},
		"by one":                  {most, more, api.ErrCells},
		"the most and one fewer":  {most, most[1:], api.ErrLengths},
		"none and one":            {nil, wide(1), api.ErrLengths},
		"one and none":            {wide(1), nil, api.ErrLengths},
		"a sum too great as well": {wide(greatest), wide(1, 2), api.ErrLengths},
		"too great and too long":  {filled[int64](api.MaxCells+1, least), filled[int64](api.MaxCells+1, least), api.ErrCells},
	} {
		fails[int64](t, name, c.want)(vec.Add(c.a, c.b))
	}
}

// 8.4, R3
func TestWiden(t *testing.T) {
	is(t, "none", wide())(vec.Widen(nil, 55))
	for shift := range 56 {
		want := make([]int64, 256)
		for i, x := range every() {
			want[i] = new(big.Int).Lsh(big.NewInt(int64(x)), uint(shift)).Int64()
		}
		is(t, "all", want)(vec.Widen(every(), shift))
	}
	is(t, "the ends", wide(-1<<62, 127<<55, 0, -1<<55))(vec.Widen(narrow(-128, 127, 0, -1), 55))
	is(t, "the most", filled[int64](api.MaxCells, -24))(vec.Widen(filled[int8](api.MaxCells, -3), 3))
}

// 8.4: held against numbers of any size.
func TestScaleAndShrink(t *testing.T) {
	l := append(edges(), spread(6).list64(700)...)
	for x := int64(-300); x <= 300; x++ {
		l = append(l, x)
	}
	for shift := range 63 {
		scaled, shrunk := make([]int64, len(l)), make([]int8, len(l))
		for i, x := range l {
			scaled[i] = nearest(x, shift)
			shrunk[i] = int8(within(scaled[i], 127))
		}
		is(t, "Scale", scaled)(vec.Scale(l, shift))
		is(t, "Shrink", shrunk)(vec.Shrink(l, shift))
	}
}

// 8.4, R3
func TestScaleOfEdges(t *testing.T) {
	is(t, "none", wide())(vec.Scale(nil, 62))
	is(t, "none", narrow())(vec.Shrink(nil, 62))
	is(t, "by 0", wide(least, -1, 0, 1, greatest))(vec.Scale(wide(least, -1, 0, 1, greatest), 0))
	is(t, "by 62", wide(-2, -2, 0, 0, 2))(vec.Scale(wide(least, -3<<61, -1<<61, 1<<61, greatest), 62))
	is(t, "halves to the even one", wide(-2, -2, -2, 0, 0, 2, 2, 2))(vec.Scale(wide(-5, -4, -3, -1, 1, 3, 4, 5), 1))
	is(t, "never -128", narrow(-127, -127, -127, -126, 126, 127, 127, 127))(vec.Shrink(wide(least, -128, -127, -126, 126, 127, 128, greatest), 0))
	is(t, "rounded, then narrowed", narrow(126, 127, 127, -127, -127))(vec.Shrink(wide(253, 254, 255, -255, -254), 1))
	is(t, "the most", filled[int64](api.MaxCells, 2))(vec.Scale(filled[int64](api.MaxCells, 5), 1))
	is(t, "the most", filled[int8](api.MaxCells, 2))(vec.Shrink(filled[int64](api.MaxCells, 5), 1))
}

// 8.4, R2, R6: a shift one past the limits, also of nothing; a list that is too long ahead of it.
func TestWrongShifts(t *testing.T) {
	for _, shift := range []int{math.MinInt, -64, -1, 63, 64, 256, math.MaxInt} {
		for _, n := range []int{0, 1, 5, api.MaxCells} {
			fails[int64](t, "Widen", api.ErrShift)(vec.Widen(make([]int8, n), shift))
			fails[int64](t, "Scale", api.ErrShift)(vec.Scale(make([]int64, n), shift))
			fails[int8](t, "Shrink", api.ErrShift)(vec.Shrink(make([]int64, n), shift))
		}
	}
	for shift := 56; shift < 63; shift++ {
		fails[int64](t, "Widen", api.ErrShift)(vec.Widen(narrow(1), shift))
		fails[int64](t, "Widen", api.ErrShift)(vec.Widen(nil, shift))
	}
	for _, shift := range []int{-1, 0, 55, 56, 62, 63} {
		fails[int64](t, "Widen", api.ErrCells)(vec.Widen(make([]int8, api.MaxCells+1), shift))
		fails[int64](t, "Scale", api.ErrCells)(vec.Scale(make([]int64, api.MaxCells+1), shift))
		fails[int8](t, "Shrink", api.ErrCells)(vec.Shrink(make([]int64, api.MaxCells+1), shift))
	}
}
