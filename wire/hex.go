package wire

import "herald/api"

const digits = "0123456789abcdef"

// Hex is bytes as digits to the base 16.
func Hex(s string) string {
	l := make([]byte, 0, 2*len(s))
	for i := range len(s) {
		l = append(l, digits[s[i]>>4], digits[s[i]&15])
	}
	return string(l)
}

// Unhex is the bytes of digits to the base 16.
func Unhex(s string) (string, int, api.Errno) {
	for i := range len(s) {
		if digit(s[i]) < 0 {
			return "", i, api.ErrHex
		}
	}
	if len(s)%2 != 0 {
		return "", len(s), api.ErrHex
	}
	l := make([]byte, len(s)/2)
	for i := range l {
		l[i] = byte(digit(s[2*i])<<4 | digit(s[2*i+1]))
	}
	return string(l), 0, api.OK
}

// digit is what a digit counts, and -1 of a byte that is none.
func digit(b byte) int {
	switch {
	case '0' <= b && b <= '9':
		return int(b - '0')
	case 'a' <= b && b <= 'f':
		return int(b-'a') + 10
	case 'A' <= b && b <= 'F':
		return int(b-'A') + 10
	}
	return -1
}
