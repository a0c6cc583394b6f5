package nat

import (
	"slices"
	"testing"
	"unsafe"

	"herald/api"
)

// shares tells whether two numbers have memory in common, spare room too.
func shares(a, b words) bool {
	if cap(a) == 0 || cap(b) == 0 {
		return false
	}
	firstA, firstB := uintptr(unsafe.Pointer(unsafe.SliceData(a))), uintptr(unsafe.Pointer(unsafe.SliceData(b)))
	return firstA < firstB+8*uintptr(cap(b)) && firstB < firstA+8*uintptr(cap(a))
}

// apart asks numbers to have no memory in common, and each to be written as it should be.
func apart(t *testing.T, what string, l ...words) {
	t.Helper()
	for i, a := range l {
		if n := len(a); n == 0 && a != nil || n > 0 && a[n-1] == 0 {
			t.Errorf("%s: number %d ends with a 0", what, i)
		}
		for j, b := range l[:i] {
			if shares(a, b) {
				t.Errorf("%s: numbers %d and %d share memory", what, j, i)
			}
		}
	}
}

// some is numbers that calls gave, 0 and 1 and the greatest one with them.
func some(t *testing.T) []Nat {
	t.Helper()
	l := []Nat{{}}
	for _, s := range []string{"1", "2", "12", "18", "18446744073709551615", "18446744073709551616", "340282366920938463463374607431768211456", "999999999999999999999999999999999999999999999999999999999"} {
		x, _, e := Parse(s)
		if e != api.OK {
			t.Fatal("Parse", s, e)
		}
		l = append(l, x)
	}
	half, e := l[1].Up(api.MaxBits - 1)
	if e != api.OK {
		t.Fatal("Up", e)
	}
	less, _ := half.Sub(l[1])
	most, e := half.Add(less)
	if e != api.OK {
		t.Fatal("Add", e)
	}
	return append(l, half, most)
}

// answers is all numbers that calls on x and y answer.
func answers(x, y Nat) map[string][]words {
	sum, _ := x.Add(y)
	difference, _ := x.Sub(y)
	product, _ := x.Mul(y)
	quotient, left, _ := x.Div(y)
	l := map[string][]words{
		"Add": {sum.words}, "Sub": {difference.words}, "Mul": {product.words}, "Div": {quotient.words, left.words},
		"Gcd": {x.Gcd(y).words}, "Root": {x.Root().words},
	}
	for _, n := range []int{0, 1, 64} {
		up, _ := x.Up(n)
		down, _ := x.Down(n)
		power, _ := x.Power(n)
		l["Up"] = append(l["Up"], up.words)
		l["Down"] = append(l["Down"], down.words)
		l["Power"] = append(l["Power"], power.words)
	}
	return l
}

// R4: what numbers are asked of is not changed, and no answer shares memory with it, nor with another one.
func TestNumbersStandAlone(t *testing.T) {
	l := some(t)
	for _, x := range l {
		for _, y := range l {
			wasX, wasY := slices.Clone(x.words), slices.Clone(y.words)
			for what, got := range answers(x, y) {
				apart(t, what+" and the first number", append(slices.Clone(got), x.words)...)
				apart(t, what+" and the second number", append(slices.Clone(got), y.words)...)
			}
			x.Text()
			x.Compare(y)
			if !slices.Equal(x.words, wasX) || !slices.Equal(y.words, wasY) {
				t.Fatal("a number was changed")
			}
		}
	}
}

// R4: the same of ratios.
func TestRatiosStandAlone(t *testing.T) {
	var ratios []Ratio
	for _, x := range some(t) {
		for _, y := range some(t)[1:] {
			r, _ := NewRatio(x, y)
			apart(t, "NewRatio", r.above, r.below, x.words, y.words)
			above, below := r.Parts()
			apart(t, "Parts", above.words, below.words, r.above, r.below)
			ratios = append(ratios, r)
		}
	}
	for i := range 3 * len(ratios) {
		r, s := ratios[i%len(ratios)], ratios[i*31%len(ratios)]
		was := []words{slices.Clone(r.above), slices.Clone(r.below), slices.Clone(s.above), slices.Clone(s.below)}
		sum, _ := r.Add(s)
		product, _ := r.Mul(s)
		quotient, _ := r.Div(s)
		answered := []words{sum.above, sum.below, product.above, product.below, quotient.above, quotient.below}
		apart(t, "answers and the first ratio", append(slices.Clone(answered), r.above, r.below)...)
		apart(t, "answers and the second ratio", append(slices.Clone(answered), s.above, s.below)...)
		r.Compare(s)
		r.Text()
		r.Decimal(20)
		for i, w := range []words{r.above, r.below, s.above, s.below} {
			if !slices.Equal(w, was[i]) {
				t.Fatal("a ratio was changed")
			}
		}
	}
}

// R4: the list of Product, and what lies behind its end, are not changed and not kept.
func TestProductLeavesItsList(t *testing.T) {
	for _, l := range [][]int64{{2, 3, 1 << 62, 1 << 62, 7}, {2, 0, 3}, {5, -1, 3}} {
		room := append(slices.Clone(l), 11, 12, 13)
		was := slices.Clone(room)
		x, _ := Product(room[:len(l)])
		text := x.Text()
		if !slices.Equal(room, was) {
			t.Error("Product changed its list", room)
		}
		clear(room)
		if x.Text() != text {
			t.Error("Product kept its list")
		}
	}
}

// R5: the zero values are the only ways to write 0, so numbers that are alike are written alike.
func TestZeroIsWrittenInOneWay(t *testing.T) {
	one := Nat{word(1)}
	zero, _ := one.Sub(one)
	empty, _, _ := Parse("0")
	r, _ := NewRatio(empty, one)
	if zero.words != nil || empty.words != nil || r.above != nil || r.below != nil {
		t.Error("0 that is not nil")
	}
}

// R4: texts are new memory, too.
func TestTextsStandAlone(t *testing.T) {
	for _, x := range some(t) {
		one, other := x.Text(), x.Text()
		if one != other || unsafe.StringData(one) == unsafe.StringData(other) {
			t.Errorf("two Texts share memory: %.40s", one)
		}
		r, _ := NewRatio(x, Nat{word(3)})
		for places := range 2 {
			one, _ := r.Decimal(places)
			other, _ := r.Decimal(places)
			if one != other || unsafe.StringData(one) == unsafe.StringData(other) {
				t.Errorf("two Decimals share memory: %.40s", one)
			}
		}
	}
}
