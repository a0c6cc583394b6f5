package stream_test

import (
	"encoding/json"
	"strings"
	"testing"
	"unicode/utf8"

	"herald/api"
	"herald/stream"
)

// unquotes asks what a quoted text says.
func unquotes(t *testing.T, quoted, want string) {
	t.Helper()
	if s, at, e := stream.Unquote(quoted); s != want || at != 0 || e != api.OK {
		t.Errorf("Unquote(%.200q): %.200q, %d, %d and not %.200q", quoted, s, at, e, want)
	}
}

// unquotesNot asks for the place of a fault.
func unquotesNot(t *testing.T, quoted string, place int) {
	t.Helper()
	if s, at, e := stream.Unquote(quoted); s != "" || at != place || e != api.ErrQuoted {
		t.Errorf("Unquote(%.200q): %.200q, %d, %d and not %d", quoted, s, at, e, place)
	}
}

// 14.9
func TestQuote(t *testing.T) {
	for s, want := range map[string]string{
		"":                       `""`,
		"a":                      `"a"`,
		`"\/`:                    `"\"\\/"`,
		"\b\t\n\f\r":             `"\b\t\n\f\r"`,
		"\x00\x01\x07\x0b\x0e":   `"\u0000\u0001\u0007\u000b\u000e"`,
		"\x0f\x10\x1a\x1f\x20":   `"\u000f\u0010\u001a\u001f "`,
		"\x7e\x7f":               "\"\x7e\x7f\"",
		"é€😀":                    `"é€😀"`,
		"<>&\u2028\u2029'":       "\"<>&\u2028\u2029'\"",
		"\xff":                   `"` + sign + `"`,
		"a\xe2\x82\"":            `"a` + sign + sign + `\""`,
		`\n`:                     `"\\n"`,
		"\xed\xa0\x80\xe2\x82\n": `"` + strings.Repeat(sign, 5) + `\n"`,
	} {
		lets(t, "Quote", stream.Quote(s), want)
		lets(t, "Quote", stream.Quote(s), quoteOf(s))
		unquotes(t, want, stream.Clean(s))
	}
}

// 14.9: each byte, alone and among others, as JSON reads it too.
func TestQuoteOfEachByte(t *testing.T) {
	for b := range 256 {
		for _, s := range texts(string([]byte{byte(b)}), string([]byte{'"', byte(b), 'u'}), string([]byte{'\\', byte(b), 0x82, 0xac})) {
			quoted := stream.Quote(s)
			lets(t, "Quote", quoted, quoteOf(s))
			var said string
			if err := json.Unmarshal([]byte(quoted), &said); err != nil || said != cleanOf(s) {
				t.Errorf("%q: %v, %q", quoted, err, said)
			}
		}
	}
}

// 14.9
func TestUnquote(t *testing.T) {
	for quoted, want := range map[string]string{
		`""`:                             "",
		`"a"`:                            "a",
		`"\"\\\/\b\f\n\r\t"`:             "\"\\/\b\f\n\r\t",
		`"/"`:                            "/",
		`"\\"`:                           `\`,
		`"\\\""`:                         `\"`,
		`"\\u0041"`:                      `\u0041`,
		`"\u0041\u00e9\u20ac"`:           "Aé€",
		`"\u00E9\u20AC\uFfFf"`:           "é€\uffff",
		`"\u0000\u001f\u0022\u005c"`:     "\x00\x1f\"\\",
		`"\u00411"`:                      "A1",
		`"\ud7ff\ue000\uD7FF\uE000"`:     "\ud7ff\ue000\ud7ff\ue000",
		`"\ud800\udc00\uDBFF\uDFFF"`:     "\U00010000\U0010ffff",
		`"\uD83D\uDE00x\ud83d\ude00"`:    "😀x😀",
		`"\udbff\udc00\ud800\udfff"`:     "\U0010fc00\U000103ff",
		`"\ufffd` + sign + `"`:           sign + sign,
		"\"é€😀\x7f\u0080\u2028'\"":       "é€😀\x7f\u0080\u2028'",
		`"\ue000\uefff\uf000\ud000"`:     "\ue000\uefff\uf000\ud000",
		`"\u000a\u000A\u000d\u0008"`:     "\n\n\r\b",
		`"` + "\u0085\u00a0\ufeff" + `"`: "\u0085\u00a0\ufeff",
	} {
		unquotes(t, quoted, want)
	}
}

// 14.9: what is no quoted text, and the place of the first byte by which it can't be one; its length, if it is a beginning.
func TestUnquoteOfWhatIsNone(t *testing.T) {
	for quoted, place := range map[string]int{
		``:                  0,
		`a`:                 0,
		` ""`:               0,
		`'a'`:               0,
		`\`:                 0,
		"\xff":              0,
		`"`:                 1,
		`"a`:                2,
		`"é`:                3,
		`"" `:               2,
		`"a""`:              3,
		`""""`:              2,
		"\"a\"\n":           3,
		`"\"`:               3,
		`"\`:                2,
		`"\a"`:              2,
		`"\'"`:              2,
		`"\0"`:              2,
		`"\x41"`:            2,
		`"\U0041"`:          2,
		`"\N"`:              2,
		`"\ "`:              2,
		`"\é"`:              2,
		"\"\\\n\"":          2,
		"\"\n\"":            1,
		"\"\x00\"":          1,
		"\"a\x1fb\"":        2,
		"\"a\tb\"":          2,
		"\"\xff\"":          1,
		"\"a\x80\"":         2,
		"\"\xc0\x80\"":      1,
		"\"\xc1":            1,
		"\"\xf5\x80\"":      1,
		"\"\xe2\"":          2,
		"\"\xe2":            2,
		"\"\xe2A\"":         2,
		"\"\xe2\x82\"":      3,
		"\"\xe2\x82":        3,
		"\"\xe2\x82\xe2":    3,
		"\"\xe0\x9f\xbf\"":  2,
		"\"\xed\xa0\x80\"":  2,
		"\"\xf0\x8f\xbf\"":  2,
		"\"\xf4\x90\x80\"":  2,
		"\"\xf0\x9f\x98\"":  4,
		"\"\xf0\x9f\x98":    4,
		"\"\xf0\x9f\xc3":    3,
		"\"\xf0\x9f\x98\n":  4,
		`"\u`:               3,
		`"\u"`:              3,
		`"\ug000"`:          3,
		`"\u0g00"`:          4,
		`"\u00g0"`:          5,
		`"\u000g"`:          6,
		`"\u004"`:           6,
		`"\u004`:            6,
		`"\u0041`:           7,
		`"\u+041"`:          3,
		`"\u00_1"`:          5,
		`"\u 041"`:          3,
		`"\udc00"`:          4,
		`"\uDFFF"`:          4,
		`"\ude00\ud83d"`:    4,
		`"\udF`:             4,
		`"\ud`:              4,
		`"\ud8`:             5,
		`"\ud83`:            6,
		`"\ud83g`:           6,
		`"\ud83d`:           7,
		`"\ud83d"`:          7,
		`"\ud83da"`:         7,
		`"\uD83D\`:          8,
		`"\ud83d\n"`:        8,
		`"\ud83d\\ude00"`:   8,
		`"\ud83d\"`:         8,
		`"\ud83d\u`:         9,
		`"\ud83d\u0041"`:    9,
		`"\ud83d\ue000"`:    9,
		`"\ud83d\ud`:        10,
		`"\ud83d\ud7ff"`:    10,
		`"\ud83d\ud83d"`:    10,
		`"\ud83d\uDBff"`:    10,
		`"\ud83d\ude`:       11,
		`"\ud83d\udeg0"`:    11,
		`"\ud83d\ude0"`:     12,
		`"\ud83d\ude0`:      12,
		`"\ud83d\ude00`:     13,
		`"\ud83d\ude00\ude`: 16,
		`"a\u0041\ud800x"`:  14,
	} {
		unquotesNot(t, quoted, place)
		if at := faultOf(quoted); at != place {
			t.Errorf("%q: %d by the words, and not %d", quoted, at, place)
		}
	}
}

// 14.9: each number of four digits, alone and behind a pair's first half, and pairs of all kinds.
func TestUnquoteOfEachNumber(t *testing.T) {
	const lower, upper = "0123456789abcdef", "0123456789ABCDEF"
	four := func(n int, digits string) string {
		return `\u` + string([]byte{digits[n>>12&15], digits[n>>8&15], digits[n>>4&15], digits[n&15]})
	}
	for n := range 1 << 16 {
		for _, digits := range texts(lower, upper) {
			switch {
			case n >= 0xd800 && n <= 0xdbff:
				unquotesNot(t, `"`+four(n, digits)+`"`, 7)
			case n >= 0xdc00 && n <= 0xdfff:
				unquotesNot(t, `"`+four(n, digits)+`"`, 4)
			default:
				unquotes(t, `"`+four(n, digits)+`"`, string(rune(n)))
			}
			switch behind := `"\uD83d` + four(n, digits) + `"`; {
			case n>>12 != 0xd:
				unquotesNot(t, behind, 9)
			case n < 0xdc00:
				unquotesNot(t, behind, 10)
			default:
				unquotes(t, behind, string(rune(0x1f400+n-0xdc00)))
			}
		}
	}
	for c := 0x10000; c <= utf8.MaxRune; c += 37 {
		first, second := 0xd800+(c-0x10000)/1024, 0xdc00+c%1024
		unquotes(t, `"`+four(first, lower)+four(second, upper)+`"`, string(rune(c)))
	}
}

// 14.9: all characters stand for themselves but three kinds.
func TestUnquoteOfEachCharacter(t *testing.T) {
	for c := rune(0); c <= utf8.MaxRune; c++ {
		if c >= 0xd800 && c <= 0xdfff {
			continue
		}
		switch quoted := `"` + string(c) + `"`; {
		case c < ' ':
			unquotesNot(t, quoted, 1)
		case c == '"':
			unquotesNot(t, quoted, 2)
		case c == '\\':
			unquotesNot(t, quoted, 3)
		default:
			unquotes(t, quoted, string(c))
		}
	}
}

// 14.9: by the words, quoted texts with bytes turned, left out, put in and cut off.
func TestUnquoteByTheWords(t *testing.T) {
	s := spread(4)
	met := map[api.Errno]int{}
	parts := texts("a", "€", "é", "😀", `\n`, `\"`, `\\`, `\/`, `\u0041`, `\u20AC`, `\ud83d\ude00`, `\uDBFF\udc00`)
	bits := append(parts, `"`, `\`, "u", "d", "8", "c", "F", "0", "\n", "\xff", "\xe2", "\xf0\x9f", "\x80", `\ud8`, `\udc00`, `\u`)
	for range 4000 {
		quoted := `"` + s.text(s.below(5), parts...) + `"`
		if s.below(4) > 0 {
			from := s.below(len(quoted) + 1)
			to := min(len(quoted), from+s.below(3))
			quoted = quoted[:from] + s.text(s.below(3), bits...) + quoted[to:]
		}
		if s.below(3) == 0 {
			quoted = quoted[:s.below(len(quoted)+1)]
		}
		said, at, e := unquoteOf(t, quoted)
		met[e]++
		if e == api.OK {
			unquotes(t, quoted, said)
		} else {
			unquotesNot(t, quoted, at)
		}
	}
	if met[api.OK] < 500 || met[api.ErrQuoted] < 500 {
		t.Error(met)
	}
}

// 14.9: a long text.
func TestQuoteOfMuch(t *testing.T) {
	s := strings.Repeat("a\n\x01\xff€\"", 100000)
	quoted := stream.Quote(s)
	lets(t, "Quote of much", quoted, `"`+strings.Repeat(`a\n\u0001`+sign+`€\"`, 100000)+`"`)
	unquotes(t, quoted, strings.Repeat("a\n\x01"+sign+"€\"", 100000))
	unquotesNot(t, quoted+"x", len(quoted))
	unquotesNot(t, quoted[:len(quoted)-1], len(quoted)-1)
}
