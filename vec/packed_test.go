package vec_test

import (
	"math"
	"slices"
	"strconv"
	"testing"

	"herald/api"
	"herald/vec"
)

// isNoPacked tells whether packed numbers are the zero value.
func isNoPacked(p api.Packed) bool {
	return p.Count == 0 && p.Group == 0 && len(p.Shifts) == 0 && len(p.Halves) == 0
}

// packs asks for shifts and halves.
func packs(t *testing.T, l []int8, group int, shifts, halves []byte) {
	t.Helper()
	p, e := vec.Pack(l, group)
	if e != api.OK || p.Count != len(l) || p.Group != group || !slices.Equal(p.Shifts, shifts) || !slices.Equal(p.Halves, halves) {
		t.Errorf("Pack of %d by %d: %d, %d, %v, %v, %d and not %v, %v", len(l), group, p.Count, p.Group, short(p.Shifts), short(p.Halves), e, short(shifts), short(halves))
	}
}

// 8.7, R3
func TestPack(t *testing.T) {
	packs(t, nil, 1, nil, nil)
	packs(t, narrow(), 256, nil, nil)
	packs(t, narrow(0), 1, []byte{0}, []byte{0})
	packs(t, narrow(-1), 256, []byte{0}, []byte{15})
	packs(t, narrow(0, -1), 2, []byte{0}, []byte{240})
	packs(t, narrow(7, -7), 2, []byte{0}, []byte{151})
	packs(t, narrow(8), 1, []byte{1}, []byte{4})
	packs(t, narrow(-8), 1, []byte{1}, []byte{12})
	packs(t, narrow(127), 1, []byte{5}, []byte{4})
	packs(t, narrow(-128), 1, []byte{5}, []byte{12})
	packs(t, narrow(127, 1, -128), 3, []byte{5}, []byte{4, 12})
	packs(t, narrow(127, 1, -128), 2, []byte{5, 5}, []byte{4, 12})
	packs(t, narrow(127, 1, -128), 1, []byte{5, 0, 5}, []byte{20, 12})
	packs(t, narrow(1, 2, 3, 16, 5, 6, 7), 3, []byte{0, 2, 0}, []byte{33, 67, 33, 7}) // halves go on over the groups' ends
}

// 8.7: the least shift by which a number has room, at the sizes where it turns; 15 / 2 is 7.5, and goes to the even 8.
func TestShiftOfOneNumber(t *testing.T) {
	for size, shift := range map[int]byte{0: 0, 1: 0, 7: 0, 8: 1, 14: 1, 15: 2, 29: 2, 30: 3, 59: 3, 60: 4, 119: 4, 120: 5, 127: 5} {
		four := byte(nearest(int64(size), int(shift)))
		packs(t, narrow(int8(size)), 1, []byte{shift}, []byte{four})
		packs(t, narrow(int8(-size)), 1, []byte{shift}, []byte{-four & 15})
	}
}

// worded is numbers packed by the document's words.
func worded(l []int8, group int) api.Packed {
	p := api.Packed{Count: len(l), Group: group}
	for part := range slices.Chunk(l, group) {
		shift := 0
		for slices.ContainsFunc(part, func(x int8) bool { n := nearest(int64(x), shift); return n < -7 || n > 7 }) {
			shift++
		}
		p.Shifts = append(p.Shifts, byte(shift))
	}
	for i, x := range l {
		n := nearest(int64(x), int(p.Shifts[i/group]))
		if n < 0 {
			n += 16
		}
		if i%2 == 0 {
			p.Halves = append(p.Halves, byte(n))
		} else {
			p.Halves[i/2] += byte(16 * n)
		}
	}
	return p
}

// somePacked calls back with lists of many lengths, of numbers of several sizes, and sizes of groups.
func somePacked(f func(l []int8, group int)) {
	s := spread(8)
	for _, n := range []int{0, 1, 2, 3, 4, 5, 15, 16, 17, 255, 256, 257, 511, 512, 513, 700} {
		for _, group := range []int{1, 2, 3, 4, 5, 16, 17, 32, 255, 256} {
			for _, most := range []int{0, 7, 8, 20, 60, 127} {
				f(s.small(n, most), group)
			}
			f(s.row(n), group)
		}
	}
	for group := 1; group <= api.MaxGroup; group++ {
		f(s.row(520), group)
		f(every(), group)
	}
}

// 8.7: held against the document's words.
func TestPackByItsWords(t *testing.T) {
	somePacked(func(l []int8, group int) {
		want := worded(l, group)
		packs(t, l, group, want.Shifts, want.Halves)
	})
}

// 8.7, R2, R6
func TestPackOfWrongThings(t *testing.T) {
	most, more := filled[int8](api.MaxCells, 100), make([]int8, api.MaxCells+1)
	for _, group := range []int{math.MinInt, -256, -1, 0, api.MaxGroup + 1, 512, math.MaxInt} {
		for _, l := range [][]int8{nil, {1}, {1, 2, 3}, most} {
			if p, e := vec.Pack(l, group); !isNoPacked(p) || e != api.ErrGroup {
				t.Errorf("Pack of %d by %d: %d", len(l), group, e)
			}
		}
	}
	for _, group := range []int{math.MinInt, 0, 1, 256, 257} {
		if p, e := vec.Pack(more, group); !isNoPacked(p) || e != api.ErrCells {
			t.Errorf("Pack of too many by %d: %d", group, e)
		}
	}
	packs(t, most, 1, filled[byte](api.MaxCells, 4), filled[byte](api.MaxCells/2, 0x66))
	packs(t, most, api.MaxGroup, filled[byte](api.MaxCells/256, 4), filled[byte](api.MaxCells/2, 0x66))
	packs(t, most[1:], api.MaxGroup, filled[byte](api.MaxCells/256, 4), append(filled[byte](api.MaxCells/2-1, 0x66), 6))
}

// 8.7: each 4 bits by each shift.
func TestUnpackOfEach(t *testing.T) {
	for shift := range 6 {
		for four := range 16 {
			p := api.Packed{Count: 2, Group: 2, Shifts: []byte{byte(shift)}, Halves: []byte{byte(four)}}
			q := api.Packed{Count: 2, Group: 2, Shifts: []byte{byte(shift)}, Halves: []byte{byte(four << 4)}}
			if four == 8 {
				fails[int8](t, "-8 in the low half", api.ErrPacked)(vec.Unpack(p))
				fails[int8](t, "-8 in the high half", api.ErrPacked)(vec.Unpack(q))
				continue
			}
			n := four
			if four > 8 {
				n -= 16
			}
			want := int8(within(int64(n)<<shift, 127))
			is(t, "the low half", narrow(want, 0))(vec.Unpack(p))
			is(t, "the high half", narrow(0, want))(vec.Unpack(q))
		}
	}
}

// 8.7, R3
func TestUnpack(t *testing.T) {
	is(t, "none", narrow())(vec.Unpack(api.Packed{Group: 1}))
	is(t, "none", narrow())(vec.Unpack(api.Packed{Group: 256, Shifts: []byte{}, Halves: []byte{}}))
	is(t, "narrowed", narrow(127, -127, 127))(vec.Unpack(api.Packed{Count: 3, Group: 3, Shifts: []byte{5}, Halves: []byte{0x97, 4}}))
	is(t, "over the groups' ends", narrow(1, 2, 3, 16, 20, 24, 7))(vec.Unpack(api.Packed{Count: 7, Group: 3, Shifts: []byte{0, 2, 0}, Halves: []byte{0x21, 0x43, 0x65, 7}}))
	most := api.Packed{Count: api.MaxCells, Group: 1, Shifts: filled[byte](api.MaxCells, 1), Halves: filled[byte](api.MaxCells/2, 0xdd)}
	is(t, "the most", filled[int8](api.MaxCells, -6))(vec.Unpack(most))
}

// rightPacked is packed numbers that are right, three of them in groups of two.
func rightPacked() api.Packed {
	return api.Packed{Count: 3, Group: 2, Shifts: []byte{0, 5}, Halves: []byte{0x97, 0x07}}
}

// wrongPacked is packed numbers that are not right.
func wrongPacked() map[string]api.Packed {
	all := map[string]api.Packed{
		"nothing":             {},
		"none, with a shift":  {Group: 1, Shifts: []byte{0}},
		"none, with a half":   {Group: 1, Halves: []byte{0}},
		"too many":            {Count: api.MaxCells + 1, Group: 1, Shifts: make([]byte, api.MaxCells+1), Halves: make([]byte, api.MaxCells/2+1)},
		"the most and 1":      {Count: api.MaxCells + 1, Group: 256, Shifts: make([]byte, api.MaxCells/256+1), Halves: make([]byte, api.MaxCells/2+1)},
		"a group too great":   {Count: 1, Group: 257, Shifts: []byte{0}, Halves: []byte{0}},
		"none, group too far": {Count: 0, Group: 257},
	}
	but := func(name string, change func(p *api.Packed)) {
		p := rightPacked()
		change(&p)
		all[name] = p
	}
	for _, n := range []int{math.MinInt, -3, -1, 0, 1, 2, 5, math.MaxInt - 1, math.MaxInt} { // 4 would have as many shifts and halves
		but("a count of "+strconv.Itoa(n), func(p *api.Packed) { p.Count = n })
	}
	for _, n := range []int{math.MinInt, -2, -1, 0, 1, 3, 256, 257, math.MaxInt} {
		but("a group of "+strconv.Itoa(n), func(p *api.Packed) { p.Group = n })
	}
	for _, n := range []byte{6, 7, 8, 62, 128, 255} {
		but("a first shift of "+strconv.Itoa(int(n)), func(p *api.Packed) { p.Shifts[0] = n })
		but("a last shift of "+strconv.Itoa(int(n)), func(p *api.Packed) { p.Shifts[1] = n })
	}
	but("no shifts", func(p *api.Packed) { p.Shifts = nil })
	but("a shift too few", func(p *api.Packed) { p.Shifts = p.Shifts[:1] })
	but("a shift too many", func(p *api.Packed) { p.Shifts = append(p.Shifts, 0) })
	but("no halves", func(p *api.Packed) { p.Halves = nil })
	but("halves too few", func(p *api.Packed) { p.Halves = p.Halves[:1] })
	but("halves too many", func(p *api.Packed) { p.Halves = append(p.Halves, 0) })
	but("-8 first", func(p *api.Packed) { p.Halves[0] = 0x98 })
	but("-8 second", func(p *api.Packed) { p.Halves[0] = 0x87 })
	but("-8 last", func(p *api.Packed) { p.Halves[1] = 0x08 })
	for n := 1; n < 16; n++ {
		but("an odd one out with "+strconv.Itoa(n), func(p *api.Packed) { p.Halves[1] = byte(n<<4) + 7 })
	}
	return all
}

// 8.7, R1: what is not right is refused, ahead of all that may be wrong with the columns.
func TestWhatIsNotRight(t *testing.T) {
	is(t, "right", narrow(7, -7, 127))(vec.Unpack(rightPacked()))
	for name, p := range wrongPacked() {
		fails[int8](t, name, api.ErrPacked)(vec.Unpack(p))
		for _, cols := range []int{math.MinInt, 0, 1, 3, math.MaxInt} {
			fails[int64](t, name, api.ErrPacked)(vec.TimesPacked(p, cols, narrow(1)))
			fails[int64](t, name, api.ErrPacked)(vec.TimesPacked(p, cols, nil))
		}
	}
}

// 8.7, R2, R3
func TestTimesPacked(t *testing.T) {
	p := okay[api.Packed](t, "Pack")(vec.Pack(narrow(7, -7, 100, 3, 1, 2), 2))
	is(t, "rows of 2", wide(14, 96, -1))(vec.TimesPacked(p, 2, narrow(1, -1)))
	is(t, "rows of 3", wide(-96, -2))(vec.TimesPacked(p, 3, narrow(0, 0, -1)))
	is(t, "one row", wide(7-14+288+5+12))(vec.TimesPacked(p, 6, narrow(1, 2, 3, 4, 5, 6)))
	is(t, "no row", wide())(vec.TimesPacked(api.Packed{Group: 1}, 2, narrow(1, 2)))
	for _, c := range []struct {
		cols int
		x    []int8
	}{{0, nil}, {-1, nil}, {4, make([]int8, 4)}, {2, nil}, {2, make([]int8, 1)}, {2, make([]int8, 3)}, {math.MaxInt, nil}, {math.MinInt, nil}} {
		fails[int64](t, "wrong columns", api.ErrLengths)(vec.TimesPacked(p, c.cols, c.x))
	}
	somePacked(func(l []int8, group int) {
		p := okay[api.Packed](t, "Pack")(vec.Pack(l, group))
		unpacked := okay[[]int8](t, "Unpack")(vec.Unpack(p))
		for cols := range 4 {
			x := l[:min(len(l), cols)]
			want, wantError := vec.Times(unpacked, cols, x)
			if wantError != api.OK {
				fails[int64](t, "TimesPacked", wantError)(vec.TimesPacked(p, cols, x))
			} else {
				is(t, "TimesPacked", want)(vec.TimesPacked(p, cols, x))
			}
		}
	})
}
