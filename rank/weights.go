package rank

import "herald/api"

// mostShared is the greatest whole that is shared.
const mostShared = 1 << 32

// Nucleus is the fewest of the greatest that weigh so much together.
func Nucleus(l []int64, part int) ([]int, api.Errno) {
	if part < 1 || part > api.Whole {
		return nil, api.ErrArg
	}
	sum, e := weigh(l)
	if e != api.OK {
		return nil, e
	}
	order := Order(l)
	count, sofar := 0, int64(0)
	for sofar*api.Whole < int64(part)*sum {
		sofar += l[order[count]]
		count++
	}
	return order[:count], api.OK
}

// Share is a whole shared among weights.
func Share(l []int64, total int64) ([]int64, api.Errno) {
	if total < 1 || total > mostShared {
		return nil, api.ErrArg
	}
	sum, e := weigh(l)
	if e != api.OK {
		return nil, e
	}
	shares, left := make([]int64, len(l)), make([]int64, len(l))
	missing := total
	for i, w := range l {
		shares[i], left[i] = w*total/sum, w*total%sum
		missing -= shares[i]
	}
	for _, place := range Order(left)[:missing] {
		shares[place]++
	}
	return shares, api.OK
}

// Normal is weights over their greatest common divisor.
func Normal(l []int64) ([]int64, api.Errno) {
	if _, e := weigh(l); e != api.OK {
		return nil, e
	}
	var common int64
	for _, w := range l {
		common = divisor(common, w)
	}
	normal := make([]int64, len(l))
	for i, w := range l {
		normal[i] = w / common
	}
	return normal, api.OK
}

// weigh is the sum of weights. It looks at all of them ahead of the sum: numbers that are no weights could sum to 0, or wrap.
func weigh(l []int64) (int64, api.Errno) {
	if len(l) > api.MaxWeights {
		return 0, api.ErrWeight
	}
	var sum int64
	for _, w := range l {
		if w < 0 || w > api.MaxWeight {
			return 0, api.ErrWeight
		}
		sum += w
	}
	if sum == 0 {
		return 0, api.ErrEmpty
	}
	return sum, api.OK
}

// divisor is the greatest common divisor of two numbers, none below 0.
func divisor(a, b int64) int64 {
	for b != 0 {
		a, b = b, a%b
	}
	return a
}
