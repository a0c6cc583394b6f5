package soft_test

import (
	"slices"
	"testing"

	"herald/api"
	"herald/soft"
)

// 11.3: one number added to all.
func TestWeightsOfWhatIsMoved(t *testing.T) {
	someScores(8, func(scores []int64, s *spread) {
		want := okay[[]int64](t, "Weights")(soft.Weights(scores))
		low, high := slices.Min(scores), slices.Max(scores)
		for _, by := range wide(1, -1, 77, -far, far, int64(s.below(far)), greatest-max(high, 0), least-min(low, 0)) {
			moved := slices.Clone(scores)
			for i := range moved {
				moved[i] += by
			}
			is(t, "Weights", want)(soft.Weights(moved))
		}
	})
}

// 11.3: a greater score has no lesser weight, the greatest weighs 2^30.
func TestWeightsRise(t *testing.T) {
	someScores(9, func(scores []int64, _ *spread) {
		scores = append(scores[1:], least)
		slices.Sort(scores)
		w := okay[[]int64](t, "Weights")(soft.Weights(scores))
		if !slices.IsSorted(w) || w[len(w)-1] != whole || w[0] < 0 {
			t.Error("Weights", scores, w)
		}
	})
}

// 11.3: a mean lies between the numbers that weigh.
func TestMeansLieBetween(t *testing.T) {
	someWeights(10, func(w []int64, s *spread) {
		v := s.numbers(len(w))
		var weighing []int8
		for i, x := range w {
			if x > 0 {
				weighing = append(weighing, v[i])
			}
		}
		m := okay[int8](t, "Mean")(soft.Mean(w, v))
		if m < slices.Min(weighing) || m > slices.Max(weighing) {
			t.Error("Mean", w, v, m)
		}
	})
}

// 11.3: in another order the mean is the same.
func TestMeansInAnotherOrder(t *testing.T) {
	someWeights(11, func(w []int64, s *spread) {
		v := s.numbers(len(w))
		want := okay[int8](t, "Mean")(soft.Mean(w, v))
		for i := range w {
			j := s.below(len(w))
			w[i], w[j], v[i], v[j] = w[j], w[i], v[j], v[i]
		}
		means(t, "Mean", want, api.OK)(soft.Mean(w, v))
	})
}

// 11.6
func TestMaskThatLetsAllBe(t *testing.T) {
	someScores(12, func(scores []int64, s *spread) {
		scores[s.below(len(scores))] = least
		want := okay[[]int64](t, "Weights")(soft.Weights(scores))
		is(t, "Masked", want)(soft.Masked(scores, filled(len(scores), true)))
	})
}

// 11.6
func TestNoSlope(t *testing.T) {
	someScores(13, func(scores []int64, _ *spread) {
		want := okay[[]int64](t, "Weights")(soft.Weights(scores))
		is(t, "Sloped", want)(soft.Sloped(scores, 0))
	})
}

// 11.6
func TestMixOfOneAlone(t *testing.T) {
	someWeights(14, func(a []int64, s *spread) {
		b := s.weights(len(a), whole)
		is(t, "no part", a)(soft.Mix(a, b, 0))
		is(t, "all", b)(soft.Mix(a, b, 65536))
		for _, part := range []int{0, 1, 2, 32767, 32768, 65535, 65536, s.below(65536)} {
			is(t, "one list twice", a)(soft.Mix(a, a, part))
		}
	})
}
