package rank_test

import (
	"testing"

	"herald/api"
	"herald/rank"
)

// The chapter's first example.
func TestExampleOfOrders(t *testing.T) {
	l := []int64{3, 5, 3, -1}
	is(t, "Order", rank.Order(l), 1, 0, 2, 3)
	is(t, "Top 2", rank.Top(l, 2), 1, 0)
	is(t, "Top 0", rank.Top(l, 0), 1, 0, 2, 3)
}

// The second one.
func TestExampleOfANucleus(t *testing.T) {
	ok := okay[int](t, "Nucleus")
	l := []int64{1, 5, 2}
	is(t, "40960", ok(rank.Nucleus(l, 40960)), 1)
	is(t, "40961", ok(rank.Nucleus(l, 40961)), 1, 2)
	is(t, "65536", ok(rank.Nucleus(l, 65536)), 1, 2, 0)
	got, e := rank.Nucleus([]int64{0}, 1)
	fails(t, "Nucleus of 0", got, e, api.ErrEmpty)
}

// The third one.
func TestExampleOfShares(t *testing.T) {
	ok := okay[int64](t, "Share")
	is(t, "1 1 1", ok(rank.Share([]int64{1, 1, 1}, 4)), 2, 1, 1)
	is(t, "3 0 1", ok(rank.Share([]int64{3, 0, 1}, 6)), 5, 0, 1)
	got, e := rank.Share([]int64{-1}, 4)
	fails(t, "Share of -1", got, e, api.ErrWeight)
}

// The fourth one.
func TestExampleOfMore(t *testing.T) {
	is(t, "Places", rank.Places([]int64{3, 5, 3, -1}), 1, 0, 2, 3)
	quantile(t, []int64{5, 1, 9}, 1, 2, 5)
	quantile(t, []int64{5, 1, 9}, 0, 1, 1)
	quantile(t, []int64{5, 1, 9}, 1, 1, 9)
	is(t, "Histogram", okay[int](t, "Histogram")(rank.Histogram([]int64{1, 5, 9}, []int64{5, 9})), 1, 1, 1)
	is(t, "Merge", okay[int64](t, "Merge")(rank.Merge([][]int64{{5, 1}, {9}, {}})), 9, 5, 1)
	if n := rank.Inversions([]int64{1, 3, 2}); n != 2 {
		t.Error("Inversions:", n)
	}
	is(t, "Normal", okay[int64](t, "Normal")(rank.Normal([]int64{4, 0, 6})), 2, 0, 3)
}
