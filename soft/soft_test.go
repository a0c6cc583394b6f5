package soft_test

import (
	"testing"

	"herald/api"
	"herald/soft"
)

// 11.1
func TestWeights(t *testing.T) {
	for name, c := range map[string]struct{ scores, want []int64 }{
		"one":                        {wide(0), wide(whole)},
		"one below 0":                {wide(-77), wide(whole)},
		"the least":                  {wide(least), wide(whole)},
		"the greatest":               {wide(greatest), wide(whole)},
		"a factor of 2":              {wide(256, 0), wide(whole, half)},
		"the greatest behind":        {wide(0, 256), wide(half, whole)},
		"all below 0":                {wide(-512, -256, -1024), wide(half, whole, whole/8)},
		"half a factor":              {wide(128, 0), wide(whole, 759204893)}, // chapter 2: Exp2(-32768)
		"equal ones":                 {wide(9, 9, 9), wide(whole, whole, whole)},
		"several of the greatest":    {wide(256, 0, 256), wide(whole, half, whole)},
		"the last that weighs 1":     {wide(0, -30*256), wide(whole, 1)},
		"one below it":               {wide(0, -30*256-1), wide(whole, 0)},
		"31 factors of 2":            {wide(0, -31*256), wide(whole, 0)},
		"a distance of just -2^40":   {wide(0, -far), wide(whole, 0)},
		"one nearer":                 {wide(0, -far+1), wide(whole, 0)},
		"one below it, at a far end": {wide(0, -far-1), wide(whole, 0)},
		"one that leaves an int64":   {wide(least, greatest), wide(0, whole)},
		"the other way round":        {wide(greatest, least), wide(whole, 0)},
		"one that leaves it by one":  {wide(-1, greatest, least), wide(0, whole, 0)},
		"just the least":             {wide(0, least), wide(whole, 0)},
		"near the least":             {wide(least, least+256), wide(half, whole)},
		"near the greatest":          {wide(greatest, greatest-512), wide(whole, whole/4)},
		"a distance of 2^55":         {wide(1<<55, 0), wide(whole, 0)}, // times 256 it is none of an int64's own
		"a distance of 2^56":         {wide(1<<56, 0), wide(whole, 0)}, // times 256 it wraps to 0
		"a distance of 2^63":         {wide(1<<62, -1<<62), wide(whole, 0)},
	} {
		is(t, name, c.want)(soft.Weights(c.scores))
	}
}

// 11.1: each distance at which a weight is above 0, and some further ones, held against numbers of any size.
func TestWeightsOfEachDistance(t *testing.T) {
	for distance := range int64(31*256 + 3) {
		for _, top := range wide(0, 1000, -5, greatest, least+9000) {
			scores := wide(top-distance, top)
			is(t, "Weights", weightsOf(bigs(scores)...))(soft.Weights(scores))
		}
	}
}

// 11.1: of many scores, held against numbers of any size.
func TestWeightsByTheWords(t *testing.T) {
	someScores(1, func(scores []int64, s *spread) {
		is(t, "Weights", weightsOf(bigs(scores)...))(soft.Weights(scores))
		scores = with(with(scores, s.below(len(scores)), least), s.below(len(scores)), greatest)
		is(t, "Weights of the least and the greatest", weightsOf(bigs(scores)...))(soft.Weights(scores))
	})
}

// 11.1, R3, R6
func TestHowManyScores(t *testing.T) {
	fails[int64](t, "nil", api.ErrArg)(soft.Weights(nil))
	fails[int64](t, "none", api.ErrArg)(soft.Weights(wide()))
	is(t, "as many as may be", filled[int64](api.MaxSeen, whole))(soft.Weights(filled[int64](api.MaxSeen, 7)))
	fails[int64](t, "one more", api.ErrArg)(soft.Weights(filled[int64](api.MaxSeen+1, 7)))
	fails[int64](t, "many more", api.ErrArg)(soft.Weights(filled[int64](100*api.MaxSeen, 7)))
}
