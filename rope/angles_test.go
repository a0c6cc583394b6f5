package rope_test

import (
	"math"
	"testing"

	"herald/api"
	"herald/rope"
)

// 10.2
func TestSine(t *testing.T) {
	circle := circleOf(t)
	for turns := -4; turns <= 4; turns++ {
		for r, want := range circle {
			if s := rope.Sine(256*turns + r); s != want {
				t.Error("Sine", 256*turns+r, s, want)
			}
		}
	}
}

// 10.2: the edges of each quarter, and angles as great as may be.
func TestSineAtTheEdges(t *testing.T) {
	for angle, want := range map[int]int8{
		0: 0, 1: 2, 2: 3, 63: 64, 64: 64, 65: 64, 127: 2, 128: 0, 129: -2, 191: -64, 192: -64, 193: -64, 254: -3, 255: -2, 256: 0, 257: 2,
		-1: -2, -2: -3, -64: -64, -128: 0, -129: 2, -192: 64, -255: 2, -256: 0, -257: -2,
		greatest: -2, greatest - 1: -3, greatest - 63: -64, greatest - 127: 0, greatest - 128: 2,
		least: 0, least + 1: 2, least + 64: 64, least + 128: 0, least + 255: -2,
	} {
		if s := rope.Sine(angle); s != want {
			t.Error("Sine", angle, s, want)
		}
	}
}

// 10.2: the list is that of a true sine to the nearest, so no number of it is misprinted here.
func TestSineIsNearTheTrueOne(t *testing.T) {
	for r := range 256 {
		if far := math.Abs(float64(rope.Sine(r)) - 64*math.Sin(math.Pi*float64(r)/128)); far > 0.5 {
			t.Error("Sine", r, far)
		}
	}
}

// 10.2: by the words, of each size, also the greatest.
func TestTable(t *testing.T) {
	circle := circleOf(t)
	for _, places := range []int{1, 2, 3, 4, 5, 7, 63, 64, 65, 511, api.MaxTable} {
		for half := 1; half <= api.MaxHalf; half++ {
			cos, sin := stretchedOf(circle, places, half, 1, 1)
			are(t, "Table", cos, sin)(rope.Table(places, half))
		}
	}
}

// 10.2: some angles by hand: the floor, and what is beyond a whole turn.
func TestTableByHand(t *testing.T) {
	// The angles of pair 0: 0, 64, 128, 192, 0; of pair 1: 0, 32, 64, 96, 128; of pair 2: 0, 16, 32, 48, 64.
	are(t, "Table", narrow(64, 64, 64, 0, 45, 59, -64, 0, 45, 0, -45, 24, 64, -64, 0), narrow(0, 0, 0, 64, 45, 24, 0, 64, 45, -64, 45, 59, 0, 0, 64))(rope.Table(5, 3))
	// At the place 3 the pairs from 6 on have the angles 3, 1, 0 and 0.
	cos, sin, _ := rope.Table(4, 10)
	is(t, "cosines", narrow(64, 64, 64, 64))(cos[36:], api.OK)
	is(t, "sines", narrow(5, 2, 0, 0))(sin[36:], api.OK)
}

// 10.2, R6
func TestTableOfWhatMayNotBe(t *testing.T) {
	for _, c := range [][2]int{
		{0, 1}, {-1, 1}, {api.MaxTable + 1, 1}, {least, 1}, {greatest, 1},
		{1, 0}, {1, -1}, {1, api.MaxHalf + 1}, {1, least}, {1, greatest},
		{0, 0}, {api.MaxTable + 1, api.MaxHalf + 1}, {api.MaxHalf, api.MaxTable}, {least, least}, {greatest, greatest}, {-4, -4},
	} {
		refused(t, "Table", api.ErrPlaces)(rope.Table(c[0], c[1]))
		refused(t, "Stretched", api.ErrPlaces)(rope.Stretched(c[0], c[1], 1, 1))
		refused(t, "Stretched by nothing", api.ErrPlaces)(rope.Stretched(c[0], c[1], 0, 0)) // R2: the sizes come first
		refused(t, "Stretched by too much", api.ErrPlaces)(rope.Stretched(c[0], c[1], 1, 65537))
	}
}

// 10.4: by the words, at the limits too.
func TestStretched(t *testing.T) {
	circle := circleOf(t)
	for _, num := range []int{1, 2, 3, 100, 4095, 65535, 65536} {
		for _, den := range []int{1, 2, 3, 7, 1000, 65535, 65536} {
			for _, places := range []int{1, 2, 9, 100, api.MaxTable} {
				for _, half := range []int{1, 2, 5, api.MaxHalf} {
					cos, sin := stretchedOf(circle, places, half, num, den)
					are(t, "Stretched", cos, sin)(rope.Stretched(places, half, num, den))
				}
			}
		}
	}
}

// 10.4: one floor of the whole quotient, not one of a part of it.
func TestStretchedByHand(t *testing.T) {
	// 64 p 2 / 3 is 0, 42, 85; half of it, of the whole quotient, is 0, 21, 42.
	are(t, "2 / 3", narrow(64, 64, 33, 56, -32, 33), narrow(0, 0, 55, 32, 56, 55))(rope.Stretched(3, 2, 2, 3))
	// 64 511 65536 is a multiple of 256, and so are its halves up to the fourteenth.
	cos, sin, _ := rope.Stretched(api.MaxTable, api.MaxHalf, 65536, 1)
	is(t, "cosines", filled[int8](15, 64))(cos[511*32:511*32+15], api.OK)
	is(t, "the next ones", narrow(-64, 0, 45, 59))(cos[511*32+15:511*32+19], api.OK)
	is(t, "sines", narrow(0, -64, -45, -24))(sin[511*32+15:511*32+19], api.OK)
	// The greatest divisor: no place has an angle above 0.
	are(t, "1 / 65536", filled[int8](512*32, 64), make([]int8, 512*32))(rope.Stretched(512, 32, 1, 65536))
}

// 10.4, R6
func TestStretchedByWhatMayNotBe(t *testing.T) {
	for _, c := range [][2]int{
		{0, 1}, {-1, 1}, {65537, 1}, {least, 1}, {greatest, 1},
		{1, 0}, {1, -1}, {1, 65537}, {1, least}, {1, greatest},
		{0, 0}, {-1, -1}, {65537, 65537}, {least, least}, {greatest, greatest},
	} {
		refused(t, "Stretched", api.ErrArg)(rope.Stretched(1, 1, c[0], c[1]))
		refused(t, "Stretched", api.ErrArg)(rope.Stretched(api.MaxTable, api.MaxHalf, c[0], c[1]))
	}
}
