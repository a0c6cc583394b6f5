package single

import (
	"math/bits"

	"herald/api"
)

// format is how many bits stand behind the sign of a floating-point number: first those of the exponent, then those of the fraction.
type format struct {
	exponent, fraction int
}

var (
	singles = format{exponent: 8, fraction: 23}
	halves  = format{exponent: 5, fraction: 10}
	brains  = format{exponent: 8, fraction: 7}
)

// farthest is an exponent beyond which every size of 64 bits is infinite, or below which it is 0, in all formats.
const farthest = 1 << 10

// Half is the half nearest to a single.
func Half(a uint32) uint16 { return uint16(halves.of(Parts(a))) }

// FromHalf is a half as a single.
func FromHalf(h uint16) uint32 { return singles.of(halves.parts(uint32(h))) }

// Brain is the brain nearest to a single.
func Brain(a uint32) uint16 { return uint16(brains.of(Parts(a))) }

// FromBrain is a brain as a single.
func FromBrain(h uint16) uint32 { return singles.of(brains.parts(uint32(h))) }

func (f format) sign() uint32 { return 1 << (f.exponent + f.fraction) }

func (f format) infinite() uint32 { return (1<<f.exponent - 1) << f.fraction }

// none is the bits that stand for every none.
func (f format) none() uint32 { return f.infinite() | 1<<(f.fraction-1) }

// least is the exponent of the least number above 0.
func (f format) least() int { return 2 - 1<<(f.exponent-1) - f.fraction }

// parts is the parts of a number of this format.
func (f format) parts(b uint32) api.Single {
	neg, size := b&f.sign() != 0, b&(f.sign()-1)
	switch {
	case size > f.infinite():
		return api.Single{Kind: api.SingleNone}
	case size == f.infinite():
		return api.Single{Kind: api.SingleInfinite, Neg: neg}
	case size == 0:
		return api.Single{Neg: neg}
	}
	one := uint32(1) << f.fraction
	mant, step := size&(one-1), int(size>>f.fraction)
	// Numbers with e 0 lie as dense as those with e 1, but have no 1 ahead of the fraction.
	if step > 0 {
		mant, step = mant+one, step-1
	}
	zeros := bits.TrailingZeros32(mant)
	return api.Single{Neg: neg, Mant: int(mant >> zeros), Exp: f.least() + step + zeros}
}

// of is the number of this format nearest to that of which the parts are given.
func (f format) of(p api.Single) uint32 {
	switch {
	case p.Kind == api.SingleNone:
		return f.none()
	case p.Kind == api.SingleInfinite && p.Neg:
		return f.sign() | f.infinite()
	case p.Kind == api.SingleInfinite:
		return f.infinite()
	}
	return f.near(p.Neg, uint64(p.Mant), p.Exp)
}

// near is the number of this format nearest to size * 2^exp, below 0 if neg.
func (f format) near(neg bool, size uint64, exp int) uint32 {
	sign := uint32(0)
	if neg {
		sign = f.sign()
	}
	if size == 0 {
		return sign
	}
	exp = min(max(exp, -farthest), farthest)
	// The last bit that the answer has room for counts 2^last.
	last := max(exp+bits.Len64(size)-f.fraction-1, f.least())
	mant := shifted(size, exp-last)
	// The 1 ahead of the fraction counts as one more step of the exponent, and so does what rounding carries into it.
	b := uint64(last-f.least())<<f.fraction + mant
	return sign | uint32(min(b, uint64(f.infinite())))
}

// shifted is the whole number nearest to size * 2^exp, of two as near the even one; what is shifted up has room.
func shifted(size uint64, exp int) uint64 {
	if exp >= 0 {
		return size << exp
	}
	down := -exp
	if down > 64 {
		return 0 // it is less than a half
	}
	whole, half := size>>down, uint64(1)<<(down-1)
	left := size - whole<<down
	if left > half || left == half && whole&1 == 1 {
		whole++
	}
	return whole
}
