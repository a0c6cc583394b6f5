package nat

import (
	"slices"
	"strconv"
	"strings"

	"herald/api"
)

const (
	// Decimal digits are told in groups: as many as always go into a word.
	groupDigits = 19
	groupSize   = 10_000_000_000_000_000_000 // 10^19

	mostDigits = 19729 // of a number with api.MaxBits binary digits: 2^65536 is below 10^19729
)

// Text is the number's decimal digits.
func (x Nat) Text() string { return x.words.text() }

// Parse is the number whose text s is; if it is none, where s goes wrong.
func Parse(s string) (Nat, int, api.Errno) {
	at := textEnd(s)
	if s == "" || at < len(s) {
		return Nat{}, at, api.ErrDecimal
	}
	if len(s) > mostDigits {
		return Nat{}, 0, api.ErrBig
	}
	x, e := number(digitsNumber(s))
	return x, 0, e
}

// textEnd is how far s is the beginning of a text of a number.
func textEnd(s string) int {
	if strings.HasPrefix(s, "0") {
		return 1
	}
	end := 0
	for end < len(s) && '0' <= s[end] && s[end] <= '9' {
		end++
	}
	return end
}

// digitsNumber is the number of decimal digits.
func digitsNumber(s string) words {
	z := make(words, (len(s)+groupDigits-1)/groupDigits)
	for i := range z {
		// The first group has what the others leave. A group is digits that go into a word: none is refused.
		end := len(s) - (len(z)-1-i)*groupDigits
		group, _ := strconv.ParseUint(s[max(end-groupDigits, 0):end], 10, 64)
		scale(z[:i+1], groupSize, group)
	}
	return trim(z)
}

// text is a number's decimal digits, without a 0 ahead of others.
func (x words) text() string {
	if len(x) == 0 {
		return strings.Clone("0") // as any answer, new memory
	}
	var groups []string // the least first
	for x = slices.Clone(x); len(x) > 0; x = trim(x) {
		groups = append(groups, padded(strconv.FormatUint(split(x, groupSize), 10), groupDigits))
	}
	slices.Reverse(groups)
	return strings.TrimLeft(strings.Join(groups, ""), "0")
}

// padded is digits with so many 0s ahead of them that they are n.
func padded(digits string, n int) string {
	return strings.Repeat("0", n-len(digits)) + digits
}
