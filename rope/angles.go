package rope

import "herald/api"

const (
	quarter = 64 // angles are told in 256ths of a whole turn
	circle  = 4 * quarter
)

// sines is the sines of a quarter of a turn, both its ends with it; the other three quarters mirror it.
var sines = [quarter + 1]int8{
	0, 2, 3, 5, 6, 8, 9, 11, 12, 14, 16, 17, 19, 20, 22, 23, 24, 26, 27, 29, 30, 32, 33, 34, 36, 37, 38, 39, 41, 42, 43, 44, 45,
	46, 47, 48, 49, 50, 51, 52, 53, 54, 55, 56, 56, 57, 58, 59, 59, 60, 60, 61, 61, 62, 62, 62, 63, 63, 63, 64, 64, 64, 64, 64, 64,
}

// Sine is the sine of an angle, which may be below 0 or beyond a whole turn.
func Sine(angle int) int8 {
	r := (angle%circle + circle) % circle // the language's own remainder of a number below 0 is not above 0
	if r < 2*quarter {
		return firstHalf(r)
	}
	return -firstHalf(r - 2*quarter)
}

// firstHalf is the sine of an angle of the first half of a turn, which falls as it has risen.
func firstHalf(r int) int8 { return sines[min(r, 2*quarter-r)] }

// cosine is the sine of a quarter of a turn further on.
func cosine(angle int) int8 { return Sine(angle + quarter) }

// Table is the cosines and the sines of the usual angles.
func Table(places, half int) ([]int8, []int8, api.Errno) {
	return Stretched(places, half, 1, 1)
}

// Stretched is the cosines and the sines of the angles stretched by num / den.
func Stretched(places, half, num, den int) ([]int8, []int8, api.Errno) {
	if places < 1 || places > api.MaxTable || !paired(half) {
		return nil, nil, api.ErrPlaces
	}
	if !stretches(num) || !stretches(den) {
		return nil, nil, api.ErrArg
	}
	cos, sin := make([]int8, 0, places*half), make([]int8, 0, places*half)
	for place := range places {
		for pair := range half {
			// At most 2^31 over at most 2^47, none of them below 0: nothing wraps, and the language's quotient is the floor.
			angle := quarter * place * num / (den << pair)
			cos, sin = append(cos, cosine(angle)), append(sin, Sine(angle))
		}
	}
	return cos, sin, api.OK
}

// paired says whether a head may have so many pairs.
func paired(half int) bool { return half >= 1 && half <= api.MaxHalf }

// maxStretch bounds both parts of what angles are stretched by.
const maxStretch = 65536

// stretches says whether n may be a part of what angles are stretched by.
func stretches(n int) bool { return n >= 1 && n <= maxStretch }
