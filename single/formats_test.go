package single_test

import (
	"testing"

	"herald/single"
)

// 3.8
func TestHalfOfSome(t *testing.T) {
	for a, want := range map[uint32]uint16{
		0:                 0,
		sign:              0x8000,
		one:               15360,
		sign | one:        0xbc00,
		0x3f801000:        0x3c00, // ties
		0x3f803000:        0x3c02,
		0x3f801001:        0x3c01,
		0x3f800fff:        0x3c00,
		sign | 0x3f803000: 0xbc02,
		0x477fe000:        0x7bff, // 65504, the greatest one
		0x477fefff:        0x7bff,
		0x477ff000:        0x7c00, // 65520
		0x47800000:        31744,  // 65536
		sign | 0x477fefff: 0xfbff,
		sign | 0x477ff000: 0xfc00,
		greatest:          0x7c00,
		sign | greatest:   0xfc00,
		infinite:          0x7c00,
		sign | infinite:   0xfc00,
		none:              32256,
		sign | none:       32256,
		infinite + 1:      32256,
		0xffffffff:        32256,
		0x38800000:        0x0400, // 2^-14
		0x387fc000:        0x03ff,
		0x387fe000:        0x0400, // a tie that carries
		0x33800000:        1,      // 2^-24
		0x33000000:        0,      // half of it
		0x33000001:        1,
		sign | 0x33000000: 0x8000,
		sign | 0x33000001: 0x8001,
		0x33c00000:        2, // a tie of 1 and 2
		1:                 0,
		sign | 1:          0x8000,
		normal:            0,
		sign | normal:     0x8000,
	} {
		if got := single.Half(a); got != want {
			t.Errorf("%08x: %04x, not %04x", a, got, want)
		}
	}
}

// 3.8
func TestHalf(t *testing.T) {
	for _, a := range append(edges(), some(7, 20000)...) {
		isShort(t, halves, uint32(single.Half(a)), a)
	}
	// Many of those that are no more than some steps away from halves.
	for _, a := range some(8, 20000) {
		a = single.FromHalf(uint16(a)) + a>>19 - 1<<12
		isShort(t, halves, uint32(single.Half(a)), a)
	}
}

// isShort asks whether bits of a kind are the nearest ones to a single.
func isShort(t *testing.T, k kind, got, a uint32) {
	t.Helper()
	want := k.infinite() | 1<<(k.fraction-1)
	if !isNone(a) {
		want = k.infinite()
		if negative(a) {
			want |= k.sign()
		}
	}
	switch {
	case !isFinite(a) && got != want:
		t.Fatalf("%08x: %04x, not %04x", a, got, want)
	case isFinite(a) && !k.isNearest(got, negative(a), value(a)):
		t.Fatalf("%08x: %04x is not nearest", a, got)
	}
}

// 3.8, 3.11: every half is a single, and of that the half again.
func TestFromHalf(t *testing.T) {
	for n := range 1 << 16 {
		h := uint16(n)
		got, size := single.FromHalf(h), uint32(h&0x7fff)
		want := h
		switch {
		case size > 0x7c00:
			equal(t, "FromHalf of none", got, none)
			want = 32256
		case size == 0x7c00:
			equal(t, "FromHalf of infinite", got, signed(h>>15 != 0, infinite))
		case got&sign>>16 != uint32(h&0x8000) || !isFinite(got) || singles.value(got&^sign).Cmp(halves.value(size)) != 0:
			t.Fatalf("%04x: %08x", h, got)
		}
		if back := single.Half(got); back != want {
			t.Fatalf("%04x: back %04x", h, back)
		}
	}
	for h, want := range map[uint16]uint32{0: 0, 0x8000: sign, 1: 864026624, 0x3c00: one, 0x7bff: 0x477fe000, 0x03ff: 0x387fc000, 0x0400: 0x38800000, 0x7e00: none, 0xfe00: none, 0x7c01: none} {
		equal(t, "FromHalf", single.FromHalf(h), want)
	}
}

// 3.8: between every two halves that follow one another, and one step of singles to either side.
func TestHalfBetween(t *testing.T) {
	for h := range uint16(0x7c00) {
		low, up := single.FromHalf(h), single.FromHalf(h+1)
		if h+1 == 0x7c00 {
			up = single.Near(1, 16) // what would stand there, if infinite ones were finite
		}
		middle := single.Mul(single.Add(low, up), single.Near(1, -1))
		for a, want := range map[uint32]uint16{low: h, middle - 1: h, middle: h + h&1, middle + 1: h + 1} {
			if got := single.Half(a); got != want {
				t.Fatalf("%08x: %04x, not %04x", a, got, want)
			}
			if got := single.Half(sign | a); got != 0x8000|want {
				t.Fatalf("%08x: %04x", sign|a, got)
			}
		}
	}
}

// 3.8
func TestBrainOfSome(t *testing.T) {
	for a, want := range map[uint32]uint16{
		0:                 0,
		sign:              0x8000,
		one:               16256,
		1065385984:        16256, // 3f808000: a tie
		0x3f808001:        0x3f81,
		0x3f818000:        0x3f82,
		0x3f807fff:        0x3f80,
		sign | 0x3f818000: 0xbf82,
		0x7f7f7fff:        0x7f7f,
		0x7f7f8000:        0x7f80,
		greatest:          0x7f80,
		sign | greatest:   0xff80,
		infinite:          0x7f80,
		sign | infinite:   0xff80,
		infinite + 1:      32704, // the upper bits alone would be infinite
		none:              32704,
		sign | none:       32704,
		0x7fffffff:        32704, // one more would be a 0 below 0
		0xffffffff:        32704,
		1:                 0,
		sign | 1:          0x8000,
		0x7fff:            0,
		0x8000:            0,
		0x8001:            1,
		0x18000:           2,
		0x007f8000:        0x0080,
		normal:            0x0080,
	} {
		if got := single.Brain(a); got != want {
			t.Errorf("%08x: %04x, not %04x", a, got, want)
		}
	}
}

// 3.8
func TestBrain(t *testing.T) {
	for _, a := range append(edges(), some(9, 20000)...) {
		isShort(t, brains, uint32(single.Brain(a)), a)
	}
	for h := range uint16(0x7f80) {
		low := uint32(h) << 16
		for a, want := range map[uint32]uint16{low: h, low | 0x7fff: h, low | 0x8000: h + h&1, low | 0x8001: h + 1, low | 0xffff: h + 1} {
			if got := single.Brain(a); got != want {
				t.Fatalf("%08x: %04x, not %04x", a, got, want)
			}
			if got := single.Brain(sign | a); got != 0x8000|want {
				t.Fatalf("%08x: %04x", sign|a, got)
			}
		}
	}
}

// 3.8
func TestFromBrain(t *testing.T) {
	for n := range 1 << 16 {
		h := uint16(n)
		want, back := uint32(h)<<16, h
		if isNone(want) {
			want, back = none, 32704
		}
		if got := single.FromBrain(h); got != want {
			t.Fatalf("%04x: %08x", h, got)
		}
		if got := single.Brain(want); got != back {
			t.Fatalf("%04x: back %04x", h, got)
		}
	}
}
