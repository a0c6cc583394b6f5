package nat

import (
	"cmp"
	"math"
	"math/bits"
	"slices"
)

const wordBits = 64 // binary digits of a word

// words is a whole number from 0 on of any size, written to the base 2^64, the least word first. The last word is not 0, and 0 is nil, so that each number is written in one way alone.
type words []uint64

// word is a number of one word, or 0.
func word(n uint64) words { return trim(words{n}) }

// trim is w without the 0s at its end.
func trim(w words) words {
	n := len(w)
	for n > 0 && w[n-1] == 0 {
		n--
	}
	if n == 0 {
		return nil
	}
	return w[:n]
}

// at is the word of worth 2^(64 i), also behind the last one.
func (x words) at(i int) uint64 {
	if i < len(x) {
		return x[i]
	}
	return 0
}

func (x words) bits() int {
	if len(x) == 0 {
		return 0
	}
	return len(x)*wordBits - bits.LeadingZeros64(x[len(x)-1])
}

func (x words) compare(y words) int {
	if len(x) != len(y) {
		return cmp.Compare(len(x), len(y))
	}
	for i := len(x) - 1; i >= 0; i-- {
		if x[i] != y[i] {
			return cmp.Compare(x[i], y[i])
		}
	}
	return 0
}

func (x words) plus(y words) words {
	n := max(len(x), len(y))
	z := make(words, n+1)
	var carry uint64
	for i := range n {
		z[i], carry = bits.Add64(x.at(i), y.at(i), carry)
	}
	z[n] = carry
	return trim(z)
}

// minus is x less y, where y is not above x.
func (x words) minus(y words) words {
	z := make(words, len(x))
	var borrow uint64
	for i := range z {
		z[i], borrow = bits.Sub64(x[i], y.at(i), borrow)
	}
	return trim(z)
}

func (x words) times(y words) words {
	z := make(words, len(x)+len(y))
	for i, m := range y {
		addTimes(z[i:i+len(x)+1], x, m)
	}
	return trim(z)
}

// timesWord is x times m.
func (x words) timesWord(m uint64) words {
	z := append(slices.Clone(x), 0)
	scale(z, m, 0)
	return trim(z)
}

// scale makes z m times as great, and adds more, within the words that z has.
func scale(z words, m, more uint64) {
	for i := range z {
		high, low := bits.Mul64(z[i], m)
		low, carry := bits.Add64(low, more, 0)
		z[i], more = low, high+carry
	}
}

// addTimes adds x times m to z, within the words that z has, and says what does not fit there.
func addTimes(z, x words, m uint64) uint64 {
	var carry uint64
	for i := range z {
		high, low := bits.Mul64(x.at(i), m)
		low, more := bits.Add64(low, carry, 0)
		high += more
		z[i], more = bits.Add64(z[i], low, 0)
		carry = high + more
	}
	return carry
}

// takeTimes takes x times m from z, within the words that z has, and says what is missing there.
func takeTimes(z, x words, m uint64) uint64 {
	var borrow uint64
	for i := range z {
		high, low := bits.Mul64(x.at(i), m)
		low, more := bits.Add64(low, borrow, 0)
		high += more
		z[i], more = bits.Sub64(z[i], low, 0)
		borrow = high + more
	}
	return borrow
}

// up is x times 2^n.
func (x words) up(n int) words {
	whole, part := n/wordBits, n%wordBits
	z := make(words, whole+len(x)+1)
	addTimes(z[whole:], x, 1<<part)
	return trim(z)
}

// down is the floor of x / 2^n.
func (x words) down(n int) words {
	whole, part := n/wordBits, n%wordBits
	z := make(words, max(len(x)-whole, 0))
	for i := range z {
		z[i] = x[whole+i]>>part | x.at(whole+i+1)<<(wordBits-part)
	}
	return trim(z)
}

// over is the floor of x / y, and what is left; y is not 0.
func (x words) over(y words) (words, words) {
	if len(y) == 1 {
		quotient, left := x.overWord(y[0])
		return quotient, word(left)
	}
	if len(x) < len(y) {
		return nil, slices.Clone(x)
	}
	// The greatest binary digit of y's last word is made 1: then that word alone tells each word of the quotient nearly.
	shift := bits.LeadingZeros64(y[len(y)-1])
	y = y.up(shift)
	left := append(x.up(shift), 0)
	quotient := make(words, len(left)-len(y))
	for i := len(quotient) - 1; i >= 0; i-- {
		quotient[i] = takeOut(left[i:i+len(y)+1], y)
	}
	return trim(quotient), trim(left).down(shift)
}

// takeOut says how many times y, whose greatest binary digit is 1, goes into a part that has one word more, and takes that out of it; it is less than 2^64 times.
func takeOut(part, y words) uint64 {
	n := len(y)
	count := uint64(math.MaxUint64)
	if part[n] < y[n-1] {
		count, _ = bits.Div64(part[n], part[n-1], y[n-1])
	}
	// The count may be too great by 1 or 2, never too small.
	missing := takeTimes(part, y, count)
	for missing > 0 {
		missing -= addTimes(part, y, 1)
		count--
	}
	return count
}

// overWord is the floor of x / d, and what is left; d is not 0.
func (x words) overWord(d uint64) (words, uint64) {
	z := slices.Clone(x)
	left := split(z, d)
	return trim(z), left
}

// split makes z the floor of z / d, and says what is left; d is not 0.
func split(z words, d uint64) uint64 {
	var left uint64
	for i := len(z) - 1; i >= 0; i-- {
		z[i], left = bits.Div64(left, z[i], d)
	}
	return left
}

// power is x to the n-th.
func (x words) power(n int) words {
	p := word(1)
	for i := bits.Len(uint(n)) - 1; i >= 0; i-- {
		p = p.times(p)
		if n>>i&1 == 1 {
			p = p.times(x)
		}
	}
	return p
}

// root is the greatest number whose square is not above x.
func (x words) root() words {
	if len(x) == 0 {
		return nil
	}
	// Newton's steps fall from a number above the root, and stop falling at the root.
	root := word(1).up((x.bits() + 1) / 2)
	for {
		quotient, _ := x.over(root)
		next := root.plus(quotient).down(1)
		if next.compare(root) >= 0 {
			return root
		}
		root = next
	}
}
