package wire_test

import (
	"encoding/hex"
	"strings"
	"testing"

	"herald/api"
	"herald/wire"
)

// 1.10
func TestHex(t *testing.T) {
	for s, want := range map[string]string{
		"":             "",
		"\x00\xfe":     "00fe",
		"\n":           "0a",
		"\x9a\xbf\xf0": "9abff0",
		"é":            "c3a9",
	} {
		if got := wire.Hex(s); got != want {
			t.Errorf("Hex(%q): %q, not %q", s, got, want)
		}
	}
	for _, s := range someTexts() {
		want := hex.EncodeToString([]byte(s))
		if got := wire.Hex(s); got != want {
			t.Errorf("Hex(%q): %q, not %q", s, got, want)
		}
		for _, digits := range []string{want, strings.ToUpper(want)} {
			if got, at, e := wire.Unhex(digits); got != s || at != 0 || e != api.OK {
				t.Errorf("Unhex(%q): %q, %d, %d", digits, got, at, e)
			}
		}
	}
}

// 1.10: each byte as a digit, alone, ahead of one and behind one.
func TestUnhexOfEachByte(t *testing.T) {
	for b := range 256 {
		c := string([]byte{byte(b)})
		value := strings.Index("0123456789abcdef", strings.ToLower(c))
		if b > 127 {
			value = -1
		}
		if value < 0 {
			refuseHex(t, c, 0)
			refuseHex(t, c+"7", 0)
			refuseHex(t, "7"+c, 1)
			refuseHex(t, "7"+c+"7", 1)
			refuseHex(t, "77"+c, 2)
			continue
		}
		refuseHex(t, c, 1)
		for digits, want := range map[string]int{c + "7": value*16 + 7, "7" + c: 7*16 + value, c + c: value*16 + value} {
			if got, at, e := wire.Unhex(digits); got != string([]byte{byte(want)}) || at != 0 || e != api.OK {
				t.Errorf("Unhex(%q): %q, %d, %d", digits, got, at, e)
			}
		}
	}
}

// 1.10
func TestUnhexRefused(t *testing.T) {
	for s, at := range map[string]int{
		"a":       1,
		"abc":     3,
		"abcdefA": 7,
		"zz":      0,
		"0g":      1,
		"abg":     2,
		"abcg1":   3,
		"00 ":     2,
		"0x00":    1,
		"00\n":    2,
		"12é":     2,
		"-1":      0,
	} {
		refuseHex(t, s, at)
	}
	if s, at, e := wire.Unhex(""); s != "" || at != 0 || e != api.OK {
		t.Errorf("Unhex of nothing: %q, %d, %d", s, at, e)
	}
	if s, at, e := wire.Unhex("0A"); s != "\n" || at != 0 || e != api.OK {
		t.Errorf("Unhex(0A): %q, %d, %d", s, at, e)
	}
}

func refuseHex(t *testing.T, s string, place int) {
	t.Helper()
	if got, at, e := wire.Unhex(s); got != "" || at != place || e != api.ErrHex {
		t.Errorf("Unhex(%q): %q, %d, %d, not at %d", s, got, at, e, place)
	}
}
