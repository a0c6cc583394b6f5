package act_test

import (
	"testing"

	"herald/act"
	"herald/api"
)

// 12.1: each number of each bend, held against numbers of any size.
func TestTablesByTheWords(t *testing.T) {
	for name, c := range map[string]struct {
		kind int
		want func(x int64) int8
	}{
		"cut":  {api.BendCut, func(x int64) int8 { return int8(max(x, 0)) }},
		"soft": {api.BendSoft, softOf},
		"square": {api.BendSquare, func(x int64) int8 {
			if x <= 0 {
				return 0
			}
			return narrowOf(roundOf(bigOf(x*x), 7))
		}},
	} {
		bend := okay[[]int8](t, name)(act.Table(c.kind))
		if len(bend) != 256 {
			t.Fatal(name, len(bend))
		}
		for _, x := range every() {
			if got, want := bendOf(bend, x), c.want(int64(x)); got != want {
				t.Errorf("%s of %d: %d and not %d", name, x, got, want)
			}
		}
	}
}

// 12.1: numbers reckoned by hand.
func TestNumbersOfTables(t *testing.T) {
	for name, c := range map[string]struct {
		bend    []int8
		numbers map[int8]int8
	}{
		"cut":    {cut(t), map[int8]int8{-128: 0, -1: 0, 0: 0, 1: 1, 126: 126, 127: 127}},
		"soft":   {smooth(t), map[int8]int8{-128: -2, -127: -2, -64: -1, -16: -3, -8: -3, -1: 0, 0: 0, 1: 1, 8: 5, 16: 13, 64: 63, 127: 125}},
		"square": {square(t), map[int8]int8{-128: 0, -127: 0, -1: 0, 0: 0, 7: 0, 8: 0, 9: 1, 24: 4, 40: 12, 64: 32, 127: 126}},
	} {
		for x, want := range c.numbers {
			if got := bendOf(c.bend, x); got != want {
				t.Errorf("%s of %d: %d and not %d", name, x, got, want)
			}
		}
	}
}

// 12.1
func TestNoSuchKind(t *testing.T) {
	for _, kind := range []int{0, -1, 4, 5, 256, 257, 1 << 32, 1<<32 + 1, least, greatest} {
		fails[int8](t, "Table", api.ErrKind)(act.Table(kind))
	}
}
