package stream

import (
	"strconv"
	"strings"
	"unicode/utf8"

	"herald/api"
)

const (
	// A byte of escaped is told by a backslash and the letter at the same place.
	escaped = "\"\\\b\f\n\r\t"
	letters = `"\bfnrt`

	digits   = "0123456789abcdef"
	anyDigit = digits + "ABCDEF"

	// Behind a digit d: a number of the first half of a pair, or of none, and one of its second half.
	firstDigit  = "0123456789abAB"
	secondDigit = "cdefCDEF"

	firstHalf  = 0xd800
	secondHalf = 0xdc00
	beyond     = 0x10000 // the least character that a pair says
)

// Quote is the quoted form of a text.
func Quote(s string) string {
	clean := Clean(s)
	quoted := append(make([]byte, 0, len(clean)+2), '"')
	for i := range len(clean) {
		b := clean[i]
		if place := strings.IndexByte(escaped, b); place >= 0 {
			quoted = append(quoted, '\\', letters[place])
		} else if b < ' ' {
			quoted = append(quoted, '\\', 'u', '0', '0', digits[b>>4], digits[b&15])
		} else {
			quoted = append(quoted, b)
		}
	}
	return string(append(quoted, '"'))
}

// Unquote is what a quoted text says.
func Unquote(t string) (string, int, api.Errno) {
	r := reader{text: t}
	if !r.quoted() {
		return "", r.at, api.ErrQuoted
	}
	return string(r.said), 0, api.OK
}

// reader reads a quoted text: it stands at the first byte that was not taken, so at the fault, once a method answers false.
type reader struct {
	text string
	at   int
	said []byte
}

func (r *reader) quoted() bool {
	if !r.take(`"`) {
		return false
	}
	for !r.take(`"`) {
		if !r.part() {
			return false
		}
	}
	return r.at == len(r.text)
}

// take takes one of these bytes each, as far as they stand there.
func (r *reader) take(sets ...string) bool {
	for _, set := range sets {
		if r.at == len(r.text) || strings.IndexByte(set, r.text[r.at]) < 0 {
			return false
		}
		r.at++
	}
	return true
}

// part reads what stands for one character.
func (r *reader) part() bool {
	switch {
	case !r.take(`\`):
		return r.character()
	case r.take("u"):
		return r.number()
	case r.take("/"):
		r.said = append(r.said, '/')
		return true
	case r.take(letters):
		place := strings.IndexByte(letters, r.text[r.at-1])
		r.said = append(r.said, escaped[place])
		return true
	}
	return false
}

// character reads a character that stands for itself.
func (r *reader) character() bool {
	rest := r.text[r.at:]
	c, size := utf8.DecodeRuneInString(rest)
	isNone := c == utf8.RuneError && size < 2 // the sign itself has three bytes
	if isNone || c < ' ' {
		for n := 1; n <= len(rest) && isHalf(rest[:n]); n++ {
			r.at++
		}
		return false
	}
	r.said = append(r.said, rest[:size]...)
	r.at += size
	return true
}

// number reads the digits of a character, and behind the first half of a pair the second one.
func (r *reader) number() bool {
	from, second := r.at, anyDigit
	if r.take("dD") {
		r.at, second = from, firstDigit // the second half of a pair may not stand alone
	}
	if !r.take(anyDigit, second, anyDigit, anyDigit) {
		return false
	}
	n := r.value()
	if n >= firstHalf && n < secondHalf {
		if !r.take(`\`, "u", "dD", secondDigit, anyDigit, anyDigit) {
			return false
		}
		n = beyond + (n-firstHalf)<<10 + r.value() - secondHalf
	}
	r.said = utf8.AppendRune(r.said, rune(n))
	return true
}

// value is what the four digits say that were taken last.
func (r *reader) value() uint64 {
	n, _ := strconv.ParseUint(r.text[r.at-4:r.at], 16, 16)
	return n
}
