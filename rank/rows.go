package rank

import (
	"slices"

	"herald/api"
)

// mostParts is the greatest divisor of a part that Quantile takes.
const mostParts = 1 << 31

// Quantile is the number at a part of the rising order.
func Quantile(l []int64, num, den int) (int64, api.Errno) {
	if den < 1 || den > mostParts || num < 0 || num > den {
		return 0, api.ErrArg
	}
	if len(l) == 0 {
		return 0, api.ErrEmpty
	}
	rising := slices.Clone(l)
	slices.Sort(rising)
	return rising[(len(l)-1)*num/den], api.OK
}

// Histogram is how many numbers lie between edges.
func Histogram(l []int64, edges []int64) ([]int, api.Errno) {
	for i := 1; i < len(edges); i++ {
		if edges[i] <= edges[i-1] {
			return nil, api.ErrUnsorted
		}
	}
	counts := make([]int, len(edges)+1)
	for _, n := range l {
		at, found := slices.BinarySearch(edges, n)
		if found { // what lies on an edge is not below it
			at++
		}
		counts[at]++
	}
	return counts, api.OK
}

// Merge is all numbers of lists in order.
func Merge(lists [][]int64) ([]int64, api.Errno) {
	if slices.ContainsFunc(lists, rises) {
		return nil, api.ErrUnsorted
	}
	return merged(lists), api.OK
}

// Inversions is how many pairs rise.
func Inversions(l []int64) int {
	return arrange(slices.Clone(l), make([]int64, len(l)), greater)
}

// rises tells whether a list has a number that is greater than the one ahead.
func rises(l []int64) bool {
	for i := 1; i < len(l); i++ {
		if l[i] > l[i-1] {
			return true
		}
	}
	return false
}

// merged is all numbers of lists that never rise, by halves: so that each number is moved only as often as the number of lists can be halved.
func merged(lists [][]int64) []int64 {
	switch len(lists) {
	case 0:
		return nil
	case 1:
		return slices.Clone(lists[0])
	}
	half := len(lists) / 2
	front, back := merged(lists[:half]), merged(lists[half:])
	all, _ := join(make([]int64, 0, len(front)+len(back)), front, back, greater)
	return all
}
