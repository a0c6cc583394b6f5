package nat_test

import (
	"math/big"
	"slices"
	"strings"
	"testing"

	"herald/api"
	"herald/nat"
)

// 4.1, 4.2, 4.5: both ways.
func TestParseAndText(t *testing.T) {
	for _, n := range slices.Concat(edges(), patterned(3, 2000, 8), patterned(4, 20, 1024)) {
		s := n.String()
		x, at, e := nat.Parse(s)
		if at != 0 {
			t.Fatal("Parse", brief(n), at)
		}
		isOrBig(t, "Parse", x, e, n)
		if x.Text() != s {
			t.Fatalf("Text of %s: %s", brief(n), x.Text())
		}
	}
}

// 4.1, 4.2: every count of decimal digits about the groups in which they are told, with 0s within, too.
func TestDecimalDigits(t *testing.T) {
	for digits := 1; digits <= 120; digits++ {
		zeros := strings.Repeat("0", digits-1)
		for _, s := range []string{
			"1" + zeros, "9" + zeros, strings.Repeat("9", digits), strings.Repeat("1", digits),
			"1" + zeros[:len(zeros)/2] + "7" + zeros[len(zeros)/2:],
		} {
			n, _ := new(big.Int).SetString(s, 10)
			x, at, e := nat.Parse(s)
			if at != 0 || x.Text() != s {
				t.Fatal("Parse", s, at, x.Text())
			}
			isOrBig(t, s, x, e, n)
		}
	}
}

// parseFails asks for ErrDecimal at a place.
func parseFails(t *testing.T, s string, at int) {
	t.Helper()
	x, place, e := nat.Parse(s)
	refused(t, "Parse", e, api.ErrDecimal, x)
	if place != at {
		t.Errorf("Parse %.100q: place %d, want %d", s, place, at)
	}
}

// 4.1, 4.4.
func TestParseFails(t *testing.T) {
	for s, at := range map[string]int{
		"": 0, "x": 0, "-": 0, "-1": 0, "+1": 0, " 1": 0, "1 ": 1, "1x": 1, "12.5": 2, "1e3": 1, "1_000": 1, "0x1f": 1,
		"00": 1, "007": 1, "0x": 1, "01": 1, "0 ": 1, "\x00": 0, "1\x00": 1, "/": 0, ":": 0, "9/": 1, "9:": 1,
		"1234567890123456789012345678901234567890x": 40, "٣": 0, "1٣": 1, "\xff": 0, "5\xff5": 1,
	} {
		parseFails(t, s, at)
	}
}

// 4.1: a text of a number with one wrong byte, at every place of it, whatever byte that is.
func TestParseFailsAtEveryPlace(t *testing.T) {
	const s = "98765432109876543210987654321098765432109876543210"
	for at := range s {
		for b := range 256 {
			if '0' <= b && b <= '9' {
				continue
			}
			parseFails(t, s[:at]+string([]byte{byte(b)})+s[at+1:], at)
		}
		// What breaks off there is a text, too, if it is not empty.
		if x, place, e := nat.Parse(s[:at]); at > 0 && (x.Text() != s[:at] || place != 0 || e != api.OK) {
			t.Error("Parse", s[:at], place, e)
		}
	}
}

// 4.1: too big ones, and texts of such that are none.
func TestParseTooBig(t *testing.T) {
	most := greatest().String()
	if x, at, e := nat.Parse(most); at != 0 || e != api.OK || x.Text() != most || x.Bits() != api.MaxBits {
		t.Error("the greatest number:", at, e)
	}
	nines := strings.Repeat("9", len(most))
	for _, s := range []string{
		power2(api.MaxBits, 0).String(), power2(api.MaxBits, 1).String(), power2(api.MaxBits+1, 0).String(),
		nines, nines + "9", "1" + strings.Repeat("0", len(most)), strings.Repeat("1234567890", 1<<20),
	} {
		x, at, e := nat.Parse(s)
		refused(t, "Parse", e, api.ErrBig, x)
		if at != 0 {
			t.Error("Parse, too big: place", at)
		}
		parseFails(t, s+"x", len(s))
		parseFails(t, s[:7]+"x"+s[7:], 7)
		parseFails(t, "0"+s, 1)
	}
}
