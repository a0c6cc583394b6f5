package soft_test

import (
	"testing"

	"herald/api"
	"herald/soft"
)

// 11.5
func TestMix(t *testing.T) {
	for name, c := range map[string]struct {
		a, b []int64
		part int
		want []int64
	}{
		"nothing":                      {nil, nil, 5, nil},
		"nothing, of no length":        {wide(), nil, 65536, wide()},
		"one":                          {wide(4), wide(8), 32768, wide(6)},
		"a quarter":                    {wide(4, 8), wide(8, 0), 16384, wide(5, 6)},
		"three quarters":               {wide(4, 8), wide(8, 0), 49152, wide(7, 2)},
		"no part":                      {wide(1, 2), wide(whole, whole), 0, wide(1, 2)},
		"all":                          {wide(whole, whole), wide(1, 2), 65536, wide(1, 2)},
		"the least part":               {wide(0, 0), wide(65536, 65535), 1, wide(1, 0)},
		"all but the least":            {wide(65536, 65535), wide(0, 0), 65535, wide(1, 0)},
		"the floor of both together":   {wide(1, 3), wide(1, 2), 32768, wide(1, 2)},
		"the floor":                    {wide(1, 3), wide(0, 4), 32768, wide(0, 3)},
		"the greatest":                 {wide(whole), wide(whole), 12345, wide(whole)},
		"the greatest and nothing":     {wide(whole, 0), wide(0, whole), 1, wide(whole-16384, 16384)},
		"nothing weighs":               {wide(0, 0), wide(0, 0), 7, wide(0, 0)},
		"one of the lists is all 0":    {wide(0, 0), wide(6, 8), 32768, wide(3, 4)},
		"the other of them is all 0":   {wide(6, 8), wide(0, 0), 32768, wide(3, 4)},
		"as many as may be":            {filled[int64](api.MaxSeen, whole), make([]int64, api.MaxSeen), 32768, filled[int64](api.MaxSeen, half)},
		"as many of the greatest, b's": {make([]int64, api.MaxSeen), filled[int64](api.MaxSeen, whole), 65535, filled[int64](api.MaxSeen, whole-16384)},
	} {
		is(t, name, c.want)(soft.Mix(c.a, c.b, c.part))
	}
}

// 11.5: held against numbers of any size.
func TestMixByTheWords(t *testing.T) {
	someWeights(7, func(a []int64, s *spread) {
		for _, part := range []int{0, 1, 2, 32767, 32768, 32769, 65535, 65536, s.below(65536)} {
			b := s.weights(len(a), whole)
			is(t, "Mix", mixedOf(a, b, part))(soft.Mix(a, b, part))
			is(t, "Mix the other way round", mixedOf(b, a, part))(soft.Mix(b, a, part))
		}
	})
}

// 11.5, R2, R6
func TestMixOfWhatMayNotBe(t *testing.T) {
	most := filled[int64](api.MaxSeen, 1)
	for name, c := range map[string]struct {
		a, b []int64
		part int
		e    api.Errno
	}{
		"a shorter one":                {wide(1), wide(1, 2), 5, api.ErrArg},
		"a longer one":                 {wide(1, 2), wide(1), 5, api.ErrArg},
		"none beside one":              {nil, wide(1), 0, api.ErrArg},
		"one beside none":              {wide(1), nil, 65536, api.ErrArg},
		"unlike, and no weights":       {wide(-1), wide(whole+1, 2), 5, api.ErrArg},
		"one more than may be":         {more(most, 1), more(most, 1), 5, api.ErrArg},
		"one more, and no weights":     {more(most, -1), more(most, -1), 5, api.ErrArg},
		"one more of one":              {more(most, 1), most, 5, api.ErrArg},
		"part below 0":                 {wide(1), wide(1), -1, api.ErrArg},
		"part one too great":           {wide(1), wide(1), 65537, api.ErrArg},
		"the least part":               {wide(1), wide(1), least, api.ErrArg},
		"the greatest part":            {wide(1), wide(1), greatest, api.ErrArg},
		"a part of nothing":            {nil, nil, -1, api.ErrArg},
		"too great a part of nothing":  {nil, nil, 65537, api.ErrArg},
		"part below 0, no weights":     {wide(-1), wide(whole + 1), -1, api.ErrArg},
		"part too great, no weights":   {wide(-1), wide(whole + 1), 65537, api.ErrArg},
		"a below 0":                    {wide(1, -1), wide(1, 1), 5, api.ErrMean},
		"b below 0":                    {wide(1, 1), wide(1, -1), 5, api.ErrMean},
		"a one too great":              {wide(whole+1, 1), wide(1, 1), 5, api.ErrMean},
		"b one too great":              {wide(1, 1), wide(whole+1, 1), 5, api.ErrMean},
		"the least of a":               {wide(least), wide(1), 5, api.ErrMean},
		"the greatest of b":            {wide(1), wide(greatest), 5, api.ErrMean},
		"a below 0, with no part":      {wide(-1), wide(1), 65536, api.ErrMean},
		"b too great, with no part":    {wide(1), wide(whole + 1), 0, api.ErrMean},
		"the last of many":             {most, with(most, 511, -1), 0, api.ErrMean},
		"the last of many, the others": {with(most, 511, whole+1), most, 65536, api.ErrMean},
	} {
		fails[int64](t, name, c.e)(soft.Mix(c.a, c.b, c.part))
	}
}
