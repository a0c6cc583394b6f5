package single_test

import (
	"math/big"
	"math/rand"
	"regexp"
	"slices"
	"strconv"
	"strings"
	"testing"
	"unsafe"

	"herald/api"
	"herald/single"
)

// 3.10
func TestTextOfSome(t *testing.T) {
	for bits, want := range map[uint32]string{
		0:                   "0",
		sign:                "-0",
		one:                 "1",
		sign | one:          "-1",
		0x3f000000:          "0.5",
		0xbf000000:          "-0.5",
		0x3fc00000:          "1.5",
		0x41200000:          "10",
		0x42c80000:          "100",
		0x42c90000:          "100.5",
		0x49742400:          "1000000",
		1036831949:          "0.100000001490116119384765625",
		0x4b800000:          "16777216",
		greatest:            "340282346638528859811704183484516925440",
		sign | greatest:     "-340282346638528859811704183484516925440",
		infinite:            "infinite",
		sign | infinite:     "-infinite",
		none:                "none",
		sign | none:         "none",
		infinite + 1:        "none",
		sign | infinite + 1: "none",
		1:                   "0." + strings.Repeat("0", 44) + smallest(),
	} {
		if got := single.Text(bits); got != want {
			t.Errorf("%08x: %s, not %s", bits, got, want)
		}
	}
}

// smallest is the digits of 2^-149 that are not the 44 zeros ahead: those of 5^149.
func smallest() string {
	return new(big.Int).Exp(big.NewInt(5), big.NewInt(149), nil).String()
}

var decimal = regexp.MustCompile(`^-?(0|[1-9][0-9]*)(\.[0-9]*[1-9])?$`)

// 3.10, 3.11: a text is the number, just so, in its one form, and read again it is the single.
func TestTextAndBack(t *testing.T) {
	for _, a := range append(edges(), some(16, 20000)...) {
		text := single.Text(a)
		want := a
		if isNone(a) {
			want = none
		}
		if len(text) > api.MaxDecimal {
			t.Fatalf("%08x: %d bytes", a, len(text))
		}
		if got, place, e := single.Parse(text); got != want || place != 0 || e != api.OK {
			t.Fatalf("%08x: %s, read %08x %d %d", a, text, got, place, e)
		}
		if !isFinite(a) {
			continue
		}
		r, ok := new(big.Rat).SetString(text)
		if !ok || !decimal.MatchString(text) || r.Cmp(value(a)) != 0 || strings.HasPrefix(text, "-") != negative(a) {
			t.Fatalf("%08x: %s", a, text)
		}
	}
}

func parses(t *testing.T, s string, want uint32) {
	t.Helper()
	if got, place, e := single.Parse(s); got != want || place != 0 || e != api.OK {
		t.Errorf("Parse(%q): %08x %d %d, not %08x", s, got, place, e, want)
	}
}

// 3.10
func TestParseSome(t *testing.T) {
	for s, want := range map[string]uint32{
		"0":           0,
		"-0":          sign,
		"00":          0,
		"0.0":         0,
		"-0.000":      sign,
		"0e5":         0,
		"-0e-5":       sign,
		"0E+0":        0,
		"1":           one,
		"-1":          sign | one,
		"01":          one,
		"0001.000":    one,
		"1e0":         one,
		"1E0":         one,
		"1e+0":        one,
		"1e-0":        one,
		"10e-1":       one,
		"0.1e1":       one,
		"0.1e+0001":   one,
		"0.1":         1036831949,
		"1e-1":        1036831949,
		"16777217":    0x4b800000,
		"16777219":    0x4b800002,
		"-16777217.0": sign | 0x4b800000,
		"1e400":       infinite,
		"-1e400":      sign | infinite,
		"1e-400":      0,
		"-1e-400":     sign,
		"infinite":    infinite,
		"-infinite":   sign | infinite,
		"none":        none,
		"3e38":        0x7f61b1e6,
		"3.5e38":      infinite,
		"1e-45":       1,
		"7e-46":       0,
		"7.1e-46":     1,
		"-7e-46":      sign,
	} {
		parses(t, s, want)
	}
}

// 3.10: exponents as great as they like, and what they are undone by.
func TestParseExponents(t *testing.T) {
	nines, zeros := strings.Repeat("9", 190), strings.Repeat("0", 150)
	for _, exponent := range []string{"46", "100", "310", "311", "9999", "10000", "99999", "100000", "2147483647", "4294967296", "4294967295", "9223372036854775807", "9223372036854775808", "18446744073709551616", "18446744073709551615", nines} {
		parses(t, "1e"+exponent, infinite)
		parses(t, "-1e+"+exponent, sign|infinite)
		parses(t, "1e-"+exponent, 0)
		parses(t, "-1e-"+exponent, sign)
		parses(t, "0e"+exponent, 0)
		parses(t, "-0.0e"+exponent, sign)
		parses(t, "-0e-"+exponent, sign)
	}
	parses(t, "1e"+zeros, one)
	parses(t, "1e"+zeros+"1", 0x41200000)
	parses(t, "1e-"+zeros+"1", 1036831949)
	parses(t, "0."+zeros+"1e151", one)
	parses(t, "-0."+zeros+"1e+151", sign|one)
	parses(t, "1"+zeros+"e-150", one)
	parses(t, "1"+zeros+"e-195", 1)
	parses(t, "1"+zeros+".0e-196", 0)
	parses(t, "0."+zeros+"1e189", 0x7e967699)
	parses(t, "0."+zeros+"1e190", infinite)
	parses(t, "0."+zeros+"1e99999", infinite)
	parses(t, "1"+zeros+"e-99999", 0)
}

// 3.10, 3.1: just between two singles, and as little as a text can say to either side of that.
func TestParseBetween(t *testing.T) {
	for _, a := range append(edges(), some(17, 5000)...) {
		size := a &^ sign
		if !isFinite(a) {
			continue
		}
		middle := new(big.Rat).Add(singles.value(size), singles.value(size+1))
		text := times2(middle, -1).FloatString(150)
		if strings.HasSuffix(text, strings.Repeat("0", 150)) {
			text = strings.TrimRight(text, "0") + "0"
		}
		minus := ""
		if negative(a) {
			minus = "-"
		}
		even := size + size&1
		parses(t, minus+text, a&sign|even)
		room := api.MaxDecimal - len(minus+text) - 1
		parses(t, minus+text+strings.Repeat("0", room)+"1", a&sign|(size+1))
		below := lessByOne(text + strings.Repeat("0", room+1))
		parses(t, minus+below, a&sign|size)
	}
}

// lessByOne is a decimal text with 1 taken off its last digit.
func lessByOne(s string) string {
	b := []byte(s)
	for i := len(b) - 1; ; i-- {
		switch b[i] {
		case '.':
		case '0':
			b[i] = '9'
		default:
			b[i]--
			return string(b)
		}
	}
}

// 3.10: numbers of many digits, with and without exponents.
func TestParseNumbers(t *testing.T) {
	source := rand.New(rand.NewSource(18))
	digits := func(n int) string {
		b := make([]byte, n)
		for i := range b {
			b[i] = '0' + byte(source.Intn(10))
		}
		return string(b)
	}
	for range 20000 {
		s := digits(1 + source.Intn(30))
		if source.Intn(2) == 0 {
			s += "." + digits(1+source.Intn(60))
		}
		if source.Intn(2) == 0 {
			s += []string{"e", "E", "e+", "E+"}[source.Intn(4)] + strconv.Itoa(source.Intn(45))
		} else if source.Intn(2) == 0 {
			s += []string{"e-", "E-"}[source.Intn(2)] + strconv.Itoa(source.Intn(80))
		}
		neg := source.Intn(2) == 0
		if neg {
			s = "-" + s
		}
		r, ok := new(big.Rat).SetString(s)
		if !ok {
			t.Fatal(s)
		}
		got, place, e := single.Parse(s)
		if place != 0 || e != api.OK {
			t.Fatal(s, place, e)
		}
		rounded(t, s, got, neg, r)
	}
}

// 3.10: MaxDecimal bytes, and one more.
func TestParseLength(t *testing.T) {
	for _, c := range []struct {
		s    string
		want uint32
	}{
		{strings.Repeat("0", 199) + "1", one},
		{"1." + strings.Repeat("0", 198), one},
		{"-" + strings.Repeat("9", 199), sign | infinite},
		{"0." + strings.Repeat("0", 197) + "1", 0},
		{"1e" + strings.Repeat("0", 198), one},
	} {
		if len(c.s) != api.MaxDecimal {
			t.Fatal(len(c.s))
		}
		parses(t, c.s, c.want)
		fails(t, c.s+"0", api.MaxDecimal, api.ErrText)
	}
	for _, s := range []string{strings.Repeat("1", 201), strings.Repeat("x", 201), strings.Repeat("x", 1000), strings.Repeat("\x00", 1<<20), "infinite" + strings.Repeat(" ", 193)} {
		fails(t, s, api.MaxDecimal, api.ErrText)
	}
	fails(t, strings.Repeat("x", 200), 0, api.ErrDecimalText)
	fails(t, strings.Repeat("1", 199)+"x", 199, api.ErrDecimalText)
	fails(t, strings.Repeat("1", 199)+".", 200, api.ErrDecimalText)
	fails(t, strings.Repeat("1", 199)+"e", 200, api.ErrDecimalText)
}

func fails(t *testing.T, s string, place int, want api.Errno) {
	t.Helper()
	if got, at, e := single.Parse(s); got != 0 || at != place || e != want {
		t.Errorf("Parse(%q): %08x %d %d, not at %d", s, got, at, e, place)
	}
}

// 3.10
func TestParseFails(t *testing.T) {
	for s, place := range map[string]int{
		"":           0,
		"-":          1,
		"--1":        1,
		"+1":         0,
		" 1":         0,
		"1 ":         1,
		"1.":         2,
		"1.x":        2,
		"1.e5":       2,
		".5":         0,
		"-.5":        1,
		"1..5":       2,
		"1.5.":       3,
		"1,5":        1,
		"e5":         0,
		"1e":         2,
		"1E":         2,
		"1e+":        3,
		"1e-":        3,
		"1e+-5":      3,
		"1e5.":       3,
		"1e5e5":      3,
		"1e 5":       2,
		"1.5e":       4,
		"1-":         1,
		"0x10":       1,
		"1_000":      1,
		"1p5":        1,
		"0x1p5":      1,
		"i":          1,
		"inf":        3,
		"Inf":        0,
		"infinity":   7,
		"infinit":    7,
		"infinitee":  8,
		"infinitE":   7,
		"infinite ":  8,
		"infinite1":  8,
		"-i":         2,
		"-inf":       4,
		"-infinity":  8,
		"-infinitex": 9,
		"--infinite": 1,
		"+infinite":  0,
		"n":          1,
		"nan":        1,
		"NaN":        0,
		"none ":      4,
		"nones":      4,
		"non":        3,
		"-none":      1,
		"-n":         1,
		"None":       0,
		"1none":      1,
		"1infinite":  1,
		"\x00":       0,
		"1\x00":      1,
		"\xff":       0,
		"\u0661":     0, // a digit, but none of these
		"1\u0661":    1,
		"-\u2212":    1,
		"\u22121":    0,
	} {
		fails(t, s, place, api.ErrDecimalText)
	}
}

var text = regexp.MustCompile(`^(-?[0-9]+(\.[0-9]+)?([eE][+-]?[0-9]+)?|infinite|-infinite|none)$`)

// ends is all with which the beginning of a text may end: nothing, a digit, what is left of a word.
func ends() []string {
	l := []string{"", "0"}
	for _, word := range []string{"-infinite", "none"} {
		for i := range len(word) {
			l = append(l, word[i:])
		}
	}
	return l
}

// holds holds Parse's place against the chapter's words.
func holds(t *testing.T, s string, ends []string) {
	t.Helper()
	_, place, e := single.Parse(s)
	if text.MatchString(s) {
		if place != 0 || e != api.OK {
			t.Fatalf("Parse(%q): %d %d", s, place, e)
		}
		return
	}
	want := 0
	for want < len(s) && slices.ContainsFunc(ends, func(end string) bool { return text.MatchString(s[:want+1] + end) }) {
		want++
	}
	fails(t, s, want, api.ErrDecimalText)
}

// 3.10: every text of a few bytes.
func TestParseShort(t *testing.T) {
	l := ends()
	texts := []string{""}
	for range 4 {
		var longer []string
		for _, s := range texts {
			for _, b := range "-+.07eEin " {
				longer = append(longer, s+string(b))
			}
		}
		for _, s := range longer {
			holds(t, s, l)
		}
		texts = longer
	}
}

// 3.10: texts that break off at every place, that have another byte there, one more or one less.
func TestParseBroken(t *testing.T) {
	l := ends()
	for _, s := range []string{"-12.34e-56", "0.5E+7", "9e9", "-infinite", "infinite", "none", "-0"} {
		for i := range len(s) + 1 {
			holds(t, s[:i], l)
			for b := range 256 {
				holds(t, s[:i]+string([]byte{byte(b)})+s[i:], l)
				holds(t, s[:i]+string([]byte{byte(b)}), l)
				if i < len(s) {
					holds(t, s[:i]+string([]byte{byte(b)})+s[i+1:], l)
				}
			}
			if i < len(s) {
				holds(t, s[:i]+s[i+1:], l)
			}
		}
	}
}

// R4: a text that is read is not kept, and one that is handed out is new.
func TestTextsAreNew(t *testing.T) {
	for _, s := range []string{"12.5", "infinite", "1x", "none"} {
		b := []byte(s)
		first, place, e := single.Parse(unsafe.String(&b[0], len(b)))
		if string(b) != s {
			t.Error("changed", s)
		}
		clear(b)
		if again, p, f := single.Parse(s); again != first || p != place || f != e {
			t.Error(s, first, again)
		}
	}
	for _, a := range []uint32{0x42c90000, sign | one, infinite, sign | infinite, none} {
		x, y := single.Text(a), single.Text(a)
		if x != y || unsafe.StringData(x) == unsafe.StringData(y) {
			t.Errorf("%08x: %s twice in one memory", a, x)
		}
	}
}

// R1: no bits and no numbers stop a call.
func TestNothingPanics(t *testing.T) {
	for _, a := range edges() {
		single.Parts(a)
		single.Sqrt(a)
		single.Half(a)
		single.Brain(a)
		single.Text(a)
		for _, scale := range []int{-1 << 63, -65, -64, 0, 64, 65, 1<<63 - 1} {
			single.At([]uint32{a}, scale)
			single.Scaled(int8(a), scale)
			single.Near(int(a), scale)
			single.Near(scale, int(a))
		}
	}
}
