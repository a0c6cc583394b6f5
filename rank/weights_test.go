package rank_test

import (
	"math"
	"math/big"
	"testing"

	"herald/api"
	"herald/rank"
)

const mostShared = 4294967296

// weigher is a call that takes weights.
type weigher func(l []int64) (int, api.Errno)

// weighers is all calls that take weights; beside an error they answer nothing.
func weighers() map[string]weigher {
	return map[string]weigher{
		"Nucleus": func(l []int64) (int, api.Errno) { x, e := rank.Nucleus(l, 1); return len(x), e },
		"Share":   func(l []int64) (int, api.Errno) { x, e := rank.Share(l, 1); return len(x), e },
		"Normal":  func(l []int64) (int, api.Errno) { x, e := rank.Normal(l); return len(x), e },
	}
}

// 7.2, 7.3, 7.7
func TestWhatAreNoWeights(t *testing.T) {
	for call, of := range weighers() {
		for name, l := range noWeights() {
			if n, e := of(l); n != 0 || e != api.ErrWeight {
				t.Errorf("%s of %s: %d, %d", call, name, n, e)
			}
		}
		for name, l := range noSums() {
			if n, e := of(l); n != 0 || e != api.ErrEmpty {
				t.Errorf("%s of %s: %d, %d", call, name, n, e)
			}
		}
		for _, l := range someWeights() {
			if n, e := of(l); n == 0 || e != api.OK {
				t.Errorf("%s of %d weights: %d, %d", call, len(l), n, e)
			}
		}
	}
}

// 7.2, R2: a wrong part is told ahead of all else, no weights ahead of a sum of 0.
func TestNucleusOfAWrongPart(t *testing.T) {
	for _, part := range []int{math.MinInt, -65536, -1, 0, api.Whole + 1, math.MaxInt} {
		for _, l := range [][]int64{{1, 5, 2}, nil, {0}, {-1}, filled(api.MaxWeights+1, 0)} {
			got, e := rank.Nucleus(l, part)
			fails(t, "Nucleus", got, e, api.ErrArg)
		}
	}
}

// 7.2
func TestNucleus(t *testing.T) {
	ok := okay[int](t, "Nucleus")
	for name, c := range map[string]struct {
		l    []int64
		part int
		want []int
	}{
		"the least part":       {[]int64{1, 5, 2}, 1, []int{1}},
		"one below just so":    {[]int64{1, 5, 2}, 40959, []int{1}},
		"just two":             {[]int64{1, 5, 2}, 57344, []int{1, 2}},
		"more than two":        {[]int64{1, 5, 2}, 57345, []int{1, 2, 0}},
		"one below the whole":  {[]int64{1, 5, 2}, 65535, []int{1, 2, 0}},
		"the whole less 0s":    {[]int64{0, 3, 0, 3, 0}, 65536, []int{1, 3}},
		"equal ones":           {[]int64{4, 4, 4, 4}, 32768, []int{0, 1}},
		"equal ones and more":  {[]int64{4, 4, 4, 4}, 32769, []int{0, 1, 2}},
		"one":                  {[]int64{7}, 65536, []int{0}},
		"the greatest":         {[]int64{api.MaxWeight, api.MaxWeight}, 32768, []int{0}},
		"the greatest and 1":   {[]int64{1, api.MaxWeight}, 65535, []int{1}},
		"all of these":         {[]int64{1, api.MaxWeight}, 65536, []int{1, 0}},
		"a part that is small": {[]int64{1, 65535}, 65535, []int{1}},
		"and what is left":     {[]int64{1, 65535}, 65536, []int{1, 0}},
		"just a part too few":  {[]int64{1, 65534, 1}, 65535, []int{1, 0}},
	} {
		is(t, name, ok(rank.Nucleus(c.l, c.part)), c.want...)
	}
}

// 7.2: as many as may be, and as great.
func TestNucleusOfTheMost(t *testing.T) {
	ok := okay[int](t, "Nucleus")
	for _, w := range []int64{1, api.MaxWeight} {
		l := filled(api.MaxWeights, w) // each of them is 16 parts
		for part, want := range map[int]int{1: 1, 16: 1, 17: 2, 32: 2, 65520: 4095, 65521: 4096, 65536: 4096} {
			is(t, "the most", ok(rank.Nucleus(l, part)), counted(want)...)
		}
	}
}

// 7.2: held against the promise's words.
func TestNucleusByItsWords(t *testing.T) {
	ok := okay[int](t, "Nucleus")
	s := spread(9)
	for _, l := range someWeights() {
		order, sum := rank.Order(l), total(l)
		for _, part := range []int{1, 2, 1 + s.below(api.Whole), 1 + s.below(api.Whole), 65535, 65536} {
			want, sofar := 0, int64(0)
			for times(sofar, 65536).Cmp(times(int64(part), sum)) < 0 {
				sofar += l[order[want]]
				want++
			}
			is(t, "Nucleus", ok(rank.Nucleus(l, part)), order[:want]...)
		}
	}
}

// 7.3, R2
func TestShareOfAWrongTotal(t *testing.T) {
	for _, whole := range []int64{least, -mostShared, -1, 0, mostShared + 1, greatest} {
		for _, l := range [][]int64{{1, 5, 2}, nil, {0}, {-1}, filled(api.MaxWeights+1, 0)} {
			got, e := rank.Share(l, whole)
			fails(t, "Share", got, e, api.ErrArg)
		}
	}
}

// 7.3
func TestShare(t *testing.T) {
	ok := okay[int64](t, "Share")
	for name, c := range map[string]struct {
		l     []int64
		total int64
		want  []int64
	}{
		"1 to one":                {[]int64{9}, 1, []int64{1}},
		"1 to the greatest":       {[]int64{2, 5, 3}, 1, []int64{0, 1, 0}},
		"1 to equal ones":         {[]int64{3, 3, 3}, 1, []int64{1, 0, 0}},
		"1 behind 0s":             {[]int64{0, 0, 3, 3}, 1, []int64{0, 0, 1, 0}},
		"just so":                 {[]int64{1, 2, 3}, 12, []int64{2, 4, 6}},
		"two of three":            {[]int64{1, 1, 1}, 5, []int64{2, 2, 1}},
		"the largest remainder":   {[]int64{10, 19, 1}, 3, []int64{1, 2, 0}},
		"a small weight gets it":  {[]int64{17, 3}, 6, []int64{5, 1}},
		"remainders, not weights": {[]int64{50, 29, 21}, 10, []int64{5, 3, 2}},
		"0s get nothing":          {[]int64{0, 1, 0, 1, 0, 1}, 5, []int64{0, 2, 0, 2, 0, 1}},
		"fewer than there are":    {[]int64{1, 1, 1, 1, 1}, 3, []int64{1, 1, 1, 0, 0}},
		"the whole of it":         {[]int64{0, 7, 0}, mostShared, []int64{0, mostShared, 0}},
		"the greatest ones":       {[]int64{api.MaxWeight, api.MaxWeight, api.MaxWeight}, mostShared, []int64{1431655766, 1431655765, 1431655765}},
		"the greatest and 1":      {[]int64{1, api.MaxWeight}, mostShared, []int64{4, mostShared - 4}},
	} {
		is(t, name, ok(rank.Share(c.l, c.total)), c.want...)
	}
}

// 7.3: as many as may be.
func TestShareOfTheMost(t *testing.T) {
	ok := okay[int64](t, "Share")
	for _, w := range []int64{1, 3, api.MaxWeight} {
		l := filled(api.MaxWeights, w)
		is(t, "all", ok(rank.Share(l, mostShared)), filled(api.MaxWeights, 1<<20)...)
		is(t, "none left", ok(rank.Share(l, api.MaxWeights)), filled(api.MaxWeights, 1)...)
		is(t, "1", ok(rank.Share(l, 1)), append(filled(1, 1), filled(api.MaxWeights-1, 0)...)...)
		is(t, "one too few", ok(rank.Share(l, api.MaxWeights-1)), append(filled(api.MaxWeights-1, 1), 0)...)
	}
}

// 7.3: held against the promise's words, in numbers of any size.
func TestShareByItsWords(t *testing.T) {
	ok := okay[int64](t, "Share")
	s := spread(10)
	for _, l := range someWeights() {
		for _, whole := range []int64{1, 2, 4, 16, 256, 65536, mostShared - 1, mostShared, int64(1 + s.below(1000))} {
			shares := ok(rank.Share(l, whole))
			if len(shares) != len(l) || total(shares) != whole {
				t.Fatalf("%d shares of %d weights, which sum to %d and not %d", len(shares), len(l), total(shares), whole)
			}
			left, missing := make([]int64, len(l)), whole
			for i, w := range l {
				floor, rest := new(big.Int).QuoRem(times(w, whole), big.NewInt(total(l)), new(big.Int))
				left[i] = rest.Int64()
				shares[i] -= floor.Int64()
				missing -= floor.Int64()
			}
			for at, place := range ordered(left) {
				want := int64(0)
				if int64(at) < missing {
					want = 1
				}
				if more := shares[place]; more != want || more > 0 && l[place] == 0 {
					t.Fatalf("place %d of %d: %d more than the floor", place, len(l), more)
				}
			}
		}
	}
}

// 7.7
func TestNormal(t *testing.T) {
	ok := okay[int64](t, "Normal")
	for name, c := range map[string]struct{ l, want []int64 }{
		"one":                {[]int64{9}, []int64{1}},
		"one and 0s":         {[]int64{0, 0, 12, 0}, []int64{0, 0, 1, 0}},
		"0 first":            {[]int64{0, 6, 9}, []int64{0, 2, 3}},
		"in it already":      {[]int64{6, 10, 15}, []int64{6, 10, 15}},
		"equal ones":         {[]int64{8, 8, 8}, []int64{1, 1, 1}},
		"1":                  {[]int64{1, api.MaxWeight}, []int64{1, api.MaxWeight}},
		"the greatest":       {[]int64{api.MaxWeight, api.MaxWeight}, []int64{1, 1}},
		"the greatest and 2": {[]int64{api.MaxWeight, 2, 0}, []int64{1 << 29, 1, 0}},
		"by the last one":    {[]int64{12, 18, 30, 4}, []int64{6, 9, 15, 2}},
		"primes":             {[]int64{999999937, 999999929}, []int64{999999937, 999999929}},
	} {
		is(t, name, ok(rank.Normal(c.l)), c.want...)
	}
	is(t, "the most", ok(rank.Normal(filled(api.MaxWeights, api.MaxWeight))), filled(api.MaxWeights, 1)...)
}

// 7.7: held against numbers of any size.
func TestNormalByItsWords(t *testing.T) {
	for _, l := range someWeights() {
		common := new(big.Int)
		for _, w := range l {
			common.GCD(nil, nil, common, big.NewInt(w))
		}
		normal := okay[int64](t, "Normal")(rank.Normal(l))
		for i, w := range l {
			if times(normal[i], common.Int64()).Cmp(big.NewInt(w)) != 0 {
				t.Fatalf("place %d: %d of %d, over %v", i, normal[i], w, common)
			}
		}
	}
}
