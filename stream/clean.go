package stream

import (
	"strings"
	"unicode/utf8"
)

// Clean is a text with a sign in the place of each byte that is part of no character.
func Clean(s string) string {
	var clean strings.Builder
	clean.Grow(len(s))
	for _, character := range s {
		clean.WriteRune(character) // of a byte that is part of none the range tells the sign
	}
	return clean.String()
}

// isHalf tells whether bytes are the beginning of a character, and not all of it.
func isHalf(s string) bool {
	return s != "" && !utf8.FullRuneInString(s)
}
