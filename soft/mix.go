package soft

import "herald/api"

const (
	partBits = 16
	allParts = 1 << partBits
)

// Mix is a mixture of two lists of weights.
func Mix(a, b []int64, part int) ([]int64, api.Errno) {
	if len(a) != len(b) || len(a) > api.MaxSeen || part < 0 || part > allParts {
		return nil, api.ErrArg
	}
	if !weighty(a) || !weighty(b) {
		return nil, api.ErrMean
	}
	mixed := make([]int64, len(a))
	for i := range mixed {
		// Nothing of it is below 0, so the shift is the floor; it is rounded once, and not each of the two.
		mixed[i] = (int64(allParts-part)*a[i] + int64(part)*b[i]) >> partBits
	}
	return mixed, api.OK
}
