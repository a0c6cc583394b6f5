package soft_test

import (
	"testing"

	"herald/api"
	"herald/soft"
)

// The chapter's first example.
func TestExampleOfWeights(t *testing.T) {
	is(t, "one", wide(1073741824))(soft.Weights(wide(5)))
	is(t, "three", wide(536870912, 1073741824, 0))(soft.Weights(wide(0, 256, -65280)))
	fails[int64](t, "none", api.ErrArg)(soft.Weights(nil))
}

// The second one.
func TestExampleOfMeans(t *testing.T) {
	means(t, "3.5", 4, api.OK)(soft.Mean(wide(1, 1), narrow(3, 4)))
	means(t, "-3.5", -3, api.OK)(soft.Mean(wide(1, 1), narrow(-3, -4)))
	means(t, "2", 2, api.OK)(soft.Mean(wide(3, 1), narrow(0, 8)))
	means(t, "no weight", 0, api.ErrMean)(soft.Mean(wide(0), narrow(1)))
	is(t, "columns", narrow(1, 3))(soft.Means(wide(1, 1), [][]int8{{0, 2}, {2, 3}}))
}

// The third one.
func TestExampleOfMore(t *testing.T) {
	is(t, "Masked", wide(1073741824, 536870912, 0))(soft.Masked(wide(256, 0, 512), []bool{true, true, false}))
	is(t, "Sloped", wide(536870912, 1073741824))(soft.Sloped(wide(0, 0), 256))
	is(t, "Mix", wide(3, 2))(soft.Mix(wide(2, 4), wide(4, 0), 32768))
	finds(t, "Best", 8, 1, api.OK)(soft.Best(wide(1, 3, 3), narrow(7, 8, 9)))
}

// The limit and the errors' numbers, as the chapter tells them.
func TestNumbersOfTheChapter(t *testing.T) {
	if api.MaxSeen != 512 || api.ErrMean != 110 || api.ErrMasked != 111 {
		t.Error(api.MaxSeen, api.ErrMean, api.ErrMasked)
	}
}
