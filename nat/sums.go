package nat

import "herald/api"

// Add is x and y together.
func (x Nat) Add(y Nat) (Nat, api.Errno) { return number(x.words.plus(y.words)) }

// Sub is x less y.
func (x Nat) Sub(y Nat) (Nat, api.Errno) {
	if x.Compare(y) < 0 {
		return Nat{}, api.ErrBelow
	}
	return number(x.words.minus(y.words))
}

// Mul is x times y.
func (x Nat) Mul(y Nat) (Nat, api.Errno) { return number(x.words.times(y.words)) }

// Up is x times 2^n.
func (x Nat) Up(n int) (Nat, api.Errno) {
	switch {
	case n < 0:
		return Nat{}, api.ErrArg
	case x.Bits() == 0:
		return Nat{}, api.OK
	case n > api.MaxBits-x.Bits():
		return Nat{}, api.ErrBig
	}
	return number(x.words.up(n))
}

// Down is the floor of x / 2^n.
func (x Nat) Down(n int) (Nat, api.Errno) {
	if n < 0 {
		return Nat{}, api.ErrArg
	}
	return number(x.words.down(n))
}

// Div is the floor of x / y, and what is left.
func (x Nat) Div(y Nat) (Nat, Nat, api.Errno) {
	if y.Bits() == 0 {
		return Nat{}, Nat{}, api.ErrZero
	}
	quotient, left := x.words.over(y.words)
	return Nat{quotient}, Nat{left}, api.OK
}

// Power is x to the n-th.
func (x Nat) Power(n int) (Nat, api.Errno) {
	if n < 0 {
		return Nat{}, api.ErrArg
	}
	if x.Bits() <= 1 {
		// All powers of 0 and 1 from the first on are the same.
		return number(x.words.power(min(n, 1)))
	}
	// x is at least 2^(Bits - 1), and 2 at least.
	if n >= api.MaxBits || (x.Bits()-1)*n >= api.MaxBits {
		return Nat{}, api.ErrBig
	}
	return number(x.words.power(n))
}

// Gcd is the greatest number that divides both.
func (x Nat) Gcd(y Nat) Nat { return Nat{x.words.gcd(y.words)} }

// Root is the greatest number whose square is not above x.
func (x Nat) Root() Nat { return Nat{x.words.root()} }

// Choose is how many ways there are to take k things of n.
func Choose(n, k int) (Nat, api.Errno) {
	if n < 0 || n > api.MaxChoose {
		return Nat{}, api.ErrArg
	}
	if k < 0 || k > n {
		return Nat{}, api.OK
	}
	ways := word(1)
	for taken := range min(k, n-k) {
		// Each way to take one more is told once for each thing that could be the last one taken, so nothing is left.
		ways, _ = ways.timesWord(uint64(n - taken)).overWord(uint64(taken + 1))
	}
	return number(ways)
}
