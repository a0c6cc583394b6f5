package single_test

import (
	"slices"
	"testing"

	"herald/api"
	"herald/single"
)

// 3.1 to 3.10: every none there is, in every call.
func TestEveryNone(t *testing.T) {
	for f := uint32(1); f < 1<<23; f++ {
		for _, a := range [2]uint32{infinite | f, sign | infinite | f} {
			_, before := single.Compare(a, one)
			_, behind := single.Compare(one, a)
			if before || behind || single.Parts(a) != (api.Single{Kind: api.SingleNone}) {
				t.Fatalf("%08x", a)
			}
			if single.Add(a, one) != none || single.Add(one, a) != none || single.Mul(a, one) != none || single.Mul(0, a) != none {
				t.Fatalf("%08x: Add, Mul", a)
			}
			if single.Sub(a, one) != none || single.Sub(one, a) != none || single.Div(a, one) != none || single.Div(one, a) != none || single.Sqrt(a) != none {
				t.Fatalf("%08x: Sub, Div, Sqrt", a)
			}
			if single.Half(a) != 0x7e00 || single.Brain(a) != 0x7fc0 {
				t.Fatalf("%08x: Half, Brain", a)
			}
			if f&(f-1) == 0 {
				noneInRowsAndTexts(t, a)
			}
		}
	}
}

func noneInRowsAndTexts(t *testing.T, a uint32) {
	t.Helper()
	if s := single.Text(a); s != "none" {
		t.Fatalf("%08x: %s", a, s)
	}
	_, e := single.At([]uint32{0, a}, 0)
	if _, _, f := single.Quantise([]uint32{0, a}); e != api.ErrFinite || f != api.ErrFinite {
		t.Fatalf("%08x: %d %d", a, e, f)
	}
}

// The chapter's examples.
func TestExamples(t *testing.T) {
	for bits, want := range map[uint32]api.Single{
		1065353216: {Mant: 1},
		1:          {Mant: 1, Exp: -149},
		2147483648: {Neg: true},
		2139095040: {Kind: api.SingleInfinite},
	} {
		if got := single.Parts(bits); got != want {
			t.Error(bits, got)
		}
	}
	equal(t, "1.5", single.Near(3, -1), 1069547520)
	equal(t, "16777217", single.Near(16777217, 0), 1266679808)
	equal(t, "2^128", single.Near(1, 128), 2139095040)
	equal(t, "2^-150", single.Near(1, -150), 0)
	equal(t, "3 * 2^-151", single.Near(3, -151), 1)
	equal(t, "1 + 1", single.Add(1065353216, 1065353216), 1073741824)
	equal(t, "the least one and its negative", single.Add(1, 2147483649), 0)
	equal(t, "infinite times 0", single.Mul(2139095040, 0), 2143289344)
	if n, ok := single.Compare(0, 2147483648); n != 0 || !ok {
		t.Error("both zeros", n, ok)
	}
	if row, scale, e := single.Quantise([]uint32{1065353216, 3204448256}); !slices.Equal(row, []int8{64, -32}) || scale != 6 || e != api.OK {
		t.Error("1.0, -0.5", row, scale, e)
	}
	if _, scale, e := single.Quantise(nil); scale != 0 || e != api.OK {
		t.Error("no numbers", scale, e)
	}
	if b, e := single.Scaled(-32, 6); b != 3204448256 || e != api.OK {
		t.Error("-0.5", b, e)
	}
	equal(t, "1 / 3", single.Div(1065353216, 1077936128), 1051372203)
	equal(t, "the root of 2", single.Sqrt(1073741824), 1068827891)
	equal(t, "1 / 0", single.Div(1065353216, 0), 2139095040)
	equal(t, "the root of -1", single.Sqrt(3212836864), 2143289344)
	equal(t, "1 as a half", uint32(single.Half(1065353216)), 15360)
	equal(t, "65536 as a half", uint32(single.Half(1199570944)), 31744)
	equal(t, "the least half", single.FromHalf(1), 864026624)
	equal(t, "a tie of brains", uint32(single.Brain(1065385984)), 16256)
	if a, b := single.Text(1036831949), single.Text(2147483648); a != "0.100000001490116119384765625" || b != "-0" {
		t.Error(a, b)
	}
	parses(t, "0.1", 1036831949)
	parses(t, "1e400", 2139095040)
	fails(t, "1.", 2, api.ErrDecimalText)
	fails(t, "infinity", 7, api.ErrDecimalText)
}
