package soft

import "herald/api"

const (
	maxSlope = 1 << 20
	maxScore = 1 << 40 // of scores that are sloped, so that none of them leaves an int64
)

// Masked is the weights of the scores that are let be, and 0 for the others.
func Masked(scores []int64, mask []bool) ([]int64, api.Errno) {
	if !seen(scores) || len(mask) != len(scores) {
		return nil, api.ErrArg
	}
	places := letBe(mask)
	if len(places) == 0 {
		return nil, api.ErrMasked
	}
	some := make([]int64, len(places))
	for i, place := range places {
		some[i] = scores[place]
	}
	l := make([]int64, len(scores))
	for i, w := range weights(some) {
		l[places[i]] = w
	}
	return l, api.OK
}

// letBe is the places of a mask's elements that are true.
func letBe(mask []bool) []int {
	var places []int
	for place, let := range mask {
		if let {
			places = append(places, place)
		}
	}
	return places
}

// Sloped is the weights of scores that count less, the further back they lie.
func Sloped(scores []int64, slope int64) ([]int64, api.Errno) {
	if !seen(scores) || slope < 0 || slope > maxSlope {
		return nil, api.ErrArg
	}
	sloped := make([]int64, len(scores))
	for place, score := range scores {
		if score < -maxScore || score > maxScore {
			return nil, api.ErrArg
		}
		sloped[place] = score - slope*int64(len(scores)-1-place)
	}
	return weights(sloped), api.OK
}
