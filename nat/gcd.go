package nat

import (
	"math/bits"
	"slices"
)

// gcd is the greatest number that divides both, by Euclid's way.
func (x words) gcd(y words) words {
	if x.compare(y) < 0 {
		x, y = y, x
	}
	for len(y) > 1 {
		if s := stepsAhead(x, y); s.count > 0 {
			x, y = s.of(x, y)
		} else {
			_, left := x.over(y)
			x, y = y, left
		}
	}
	if len(y) == 0 {
		return slices.Clone(x)
	}
	_, left := x.overWord(y[0])
	return word(gcdOfWords(y[0], left))
}

func gcdOfWords(a, b uint64) uint64 {
	for b != 0 {
		a, b = b, a%b
	}
	return a
}

// steps is some steps of Euclid's way at once: of x and y they make ax * x less ay * y, and by * y less bx * x, or both the other way about, if their count is odd.
type steps struct {
	ax, ay, bx, by uint64
	count          int
}

// stepsAhead is those of Euclid's steps on x and y that their first 64 binary digits tell for certain (Lehmer's way): some 18 of them for one pass over long numbers. x is not below y, and has two words at least.
func stepsAhead(x, y words) steps {
	n, shift := len(x), bits.LeadingZeros64(x[len(x)-1])
	a, b := x.first(n, shift), y.first(n, shift)
	s := steps{ax: 1, by: 1}
	for b > 0 {
		quotient := a / b
		a, b = b, a%b
		next := steps{s.bx, s.by, s.ax + quotient*s.bx, s.ay + quotient*s.by, s.count + 1}
		// The digits that are not looked at move a and b by less than these factors (those of y are never the lesser ones): while that much is left, they do not change the quotient (Collins' condition).
		if b < next.by || a-b < next.by+next.ay {
			break
		}
		s = next
	}
	return s
}

// first is the 64 binary digits that follow the first few, where x is written with n words.
func (x words) first(n, few int) uint64 {
	return x.at(n-1)<<few | x.at(n-2)>>(wordBits-few)
}

// of is what the steps make of x and y.
func (s steps) of(x, y words) (words, words) {
	if s.count%2 == 0 {
		return difference(x, s.ax, y, s.ay), difference(y, s.by, x, s.bx)
	}
	return difference(y, s.ay, x, s.ax), difference(x, s.bx, y, s.by)
}

// difference is a * x less b * y, which is not below 0.
func difference(x words, a uint64, y words, b uint64) words {
	z := make(words, max(len(x), len(y))+1)
	addTimes(z, x, a)
	takeTimes(z, y, b)
	return trim(z)
}
