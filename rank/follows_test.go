package rank_test

import (
	"slices"
	"testing"

	"herald/api"
	"herald/rank"
)

// 7.4: Order tells each place once, Top tells a beginning of it.
func TestTopIsABeginning(t *testing.T) {
	for _, l := range someLists() {
		order := rank.Order(l)
		each(t, "Order", order, len(l))
		for k := 1; k <= len(l) && k < 70; k++ {
			is(t, "Top", rank.Top(l, k), order[:k]...)
		}
	}
}

// 7.4: what Nucleus leaves out is not greater than what it tells; with a greater part it goes on from the same beginning.
func TestNucleusLeavesOutTheLesser(t *testing.T) {
	for _, l := range someWeights() {
		var last []int
		for part := 1; part <= api.Whole; part += 5461 {
			told := okay[int](t, "Nucleus")(rank.Nucleus(l, part))
			is(t, "Nucleus", told, rank.Top(l, len(told))...)
			if len(told) < len(last) || !slices.Equal(told[:len(last)], last) {
				t.Fatalf("part %d: %v behind %v", part, told, last)
			}
			last = told
			in, worst := make([]bool, len(l)), int64(api.MaxWeight)
			for _, place := range told {
				in[place], worst = true, min(worst, l[place])
			}
			for place, w := range l {
				if !in[place] && w > worst {
					t.Fatalf("part %d: %d is left out, %d is told", part, w, worst)
				}
			}
		}
	}
}

// 7.4: Share differs from the true share by less than 1.
func TestShareIsNear(t *testing.T) {
	for _, l := range someWeights() {
		sum := total(l)
		for _, whole := range []int64{1, 3, 16, 65536, mostShared} {
			for i, share := range okay[int64](t, "Share")(rank.Share(l, whole)) {
				off := times(share, sum)
				off.Sub(off, times(l[i], whole))
				if off.CmpAbs(times(sum, 1)) >= 0 {
					t.Fatalf("place %d: %d of %d", i, share, whole)
				}
			}
		}
	}
}

// 7.4: with all weights multiplied by one number it is the same.
func TestShareOfMultiples(t *testing.T) {
	for _, l := range someWeights() {
		for _, by := range []int64{2, 3, 10, 1 << 20} {
			if slices.Max(l) > api.MaxWeight/by {
				continue
			}
			multiple := slices.Clone(l)
			for i := range multiple {
				multiple[i] *= by
			}
			for _, whole := range []int64{1, 2, 5, 256, mostShared} {
				is(t, "Share", okay[int64](t, "Share")(rank.Share(multiple, whole)), okay[int64](t, "Share")(rank.Share(l, whole))...)
			}
		}
	}
}

// 7.8: Places of Order's places count 0, 1, 2.
func TestPlacesOfOrder(t *testing.T) {
	for _, l := range someLists() {
		places := rank.Places(l)
		each(t, "Places", places, len(l))
		for at, place := range rank.Order(l) {
			if places[place] != at {
				t.Fatalf("place %d: %d and not %d", place, places[place], at)
			}
		}
	}
}

// 7.8: Merge of one list is that. Inversions is 0 just of lists that never rise.
func TestMergeOfOne(t *testing.T) {
	for _, l := range someLists() {
		got, e := rank.Merge([][]int64{l})
		turned := rank.Inversions(l)
		if turned == 0 {
			is(t, "Merge", okay[int64](t, "Merge")(got, e), l...)
		} else {
			fails(t, "Merge", got, e, api.ErrUnsorted)
		}
		falling := make([]int64, len(l))
		for at, place := range rank.Order(l) {
			falling[at] = l[place]
		}
		is(t, "Merge of what is put in order", okay[int64](t, "Merge")(rank.Merge([][]int64{falling})), falling...)
		if rank.Inversions(falling) != 0 || turned == 0 != slices.Equal(l, falling) {
			t.Errorf("%v: %d inversions", l, turned)
		}
	}
}

// 7.8: Share of Normal(l) is Share of l; Normal of it is that.
func TestShareOfNormal(t *testing.T) {
	ok := okay[int64](t, "Normal")
	for _, l := range someWeights() {
		normal := ok(rank.Normal(l))
		is(t, "Normal again", ok(rank.Normal(normal)), normal...)
		for _, whole := range []int64{1, 2, 5, 256, mostShared} {
			is(t, "Share", ok(rank.Share(normal, whole)), ok(rank.Share(l, whole))...)
		}
	}
}
