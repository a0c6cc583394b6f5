package act

import (
	"cmp"
	"slices"

	"herald/api"
	"herald/fixed"
	"herald/vec"
)

const (
	wholeBits = 16  // the weights of all chosen experts sum to 2^16
	points    = 256 // what a point of a score is of Exp2's own, so that 256 points are a factor of 2
)

// Choose is the places of the k experts with the greatest scores, and their weights.
func Choose(router, h []int8, shift, k int) ([]int, []int64, api.Errno) {
	scores, e := scaled(router, h, shift)
	if e != api.OK {
		return nil, nil, e
	}
	if k < 1 || k > len(scores) {
		return nil, nil, api.ErrKind
	}
	chosen := greatest(scores, k)
	return chosen, weigh(scores, chosen), api.OK
}

// greatest is the places of the k greatest scores, the greatest first, of equal ones the lesser place.
func greatest(scores []int64, k int) []int {
	places := make([]int, len(scores))
	for i := range places {
		places[i] = i
	}
	slices.SortFunc(places, func(a, b int) int {
		return cmp.Or(cmp.Compare(scores[b], scores[a]), cmp.Compare(a, b))
	})
	return slices.Clone(places[:k]) // so that those not chosen don't live on behind the end
}

// weigh is the weights of the chosen, of which the first one has the greatest score. No number leaves its room, as a score is at most 2^34 in size.
func weigh(scores []int64, chosen []int) []int64 {
	l := make([]int64, len(chosen))
	var sum int64
	for i, place := range chosen {
		l[i] = fixed.Exp2(points * (scores[place] - scores[chosen[0]]))
		sum += l[i]
	}
	missing := int64(1) << wholeBits
	for i, x := range l {
		l[i] = x << wholeBits / sum
		missing -= l[i]
	}
	l[0] += missing
	return l
}

// Experts is what the middles say that the router chooses, by their weights.
func Experts(router []int8, shift, k int, l []api.Middle, bend, h []int8) ([]int64, api.Errno) {
	chosen, weights, e := Choose(router, h, shift, k)
	if e != api.OK {
		return nil, e
	}
	if len(l) != len(router)/len(h) { // by no 0, as a row of none has no scores
		return nil, api.ErrLengths
	}
	var sums []int64
	alike := true
	for i, place := range chosen {
		row, e := Middle(l[place], bend, h)
		if e != api.OK {
			return nil, e
		}
		if i == 0 {
			sums = make([]int64, len(row))
		}
		// The errors of the others' middles come first: so unlike lengths are told behind the last one.
		alike = alike && len(row) == len(sums)
		if alike {
			addTimes(sums, row, weights[i])
		}
	}
	if !alike {
		return nil, api.ErrLengths
	}
	return vec.Scale(sums, wholeBits)
}

// addTimes adds to sums a row, times its weight; no sum leaves its room, as a number of a middle is at most 2^34 in size.
func addTimes(sums, row []int64, weight int64) {
	for i, x := range row {
		sums[i] += weight * x
	}
}
