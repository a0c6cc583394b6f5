package soft_test

import (
	"testing"

	"herald/api"
	"herald/soft"
)

// mask is an element for each letter: an x lets be.
func mask(text string) []bool {
	l := make([]bool, len(text))
	for i := range l {
		l[i] = text[i] == 'x'
	}
	return l
}

// 11.4
func TestMasked(t *testing.T) {
	for name, c := range map[string]struct {
		scores []int64
		mask   string
		want   []int64
	}{
		"one":                              {wide(5), "x", wide(whole)},
		"all":                              {wide(0, 256), "xx", wide(half, whole)},
		"one alone":                        {wide(0, 256, 512), "x..", wide(whole, 0, 0)},
		"another one alone":                {wide(0, 256, 512), ".x.", wide(0, whole, 0)},
		"the last one alone":               {wide(0, 256, 512), "..x", wide(0, 0, whole)},
		"the greatest is not let be":       {wide(512, 0, 256), ".xx", wide(0, half, whole)},
		"the greatest is far off":          {wide(0, greatest, -256), "x.x", wide(whole, 0, half)},
		"what is not let be is the least":  {wide(0, least, -256), "x.x", wide(whole, 0, half)},
		"one of the greatest is let be":    {wide(256, 256, 0), ".xx", wide(0, whole, half)},
		"a score far off alone":            {wide(greatest, least), ".x", wide(0, whole)},
		"the least and the greatest":       {wide(greatest, 0, least), "x.x", wide(whole, 0, 0)},
		"equal ones, some let be":          {wide(3, 3, 3, 3), "x..x", wide(whole, 0, 0, whole)},
		"what weighs nothing among others": {wide(0, -far-1, -far), "xxx", wide(whole, 0, 0)},
	} {
		is(t, name, c.want)(soft.Masked(c.scores, mask(c.mask)))
	}
}

// 11.4: held against numbers of any size.
func TestMaskedByTheWords(t *testing.T) {
	someScores(2, func(scores []int64, s *spread) {
		let := make([]bool, len(scores))
		for i := range let {
			let[i] = s.below(3) != 0
		}
		let[s.below(len(let))] = true
		var some []int64
		for i, score := range scores {
			if let[i] {
				some = append(some, score)
			}
		}
		weights := weightsOf(bigs(some)...)
		want := make([]int64, len(scores))
		for i := range want {
			if let[i] {
				want[i], weights = weights[0], weights[1:]
			}
		}
		is(t, "Masked", want)(soft.Masked(scores, let))
	})
}

// 11.4, R2, R3, R6
func TestMaskedOfWhatMayNotBe(t *testing.T) {
	most, none := filled[int64](api.MaxSeen, 7), make([]bool, api.MaxSeen)
	for name, c := range map[string]struct {
		scores []int64
		mask   []bool
		e      api.Errno
	}{
		"nothing":                         {nil, nil, api.ErrArg},
		"nothing, of no length":           {wide(), mask(""), api.ErrArg},
		"no scores":                       {nil, mask("x"), api.ErrArg},
		"no scores, nothing let be":       {nil, mask("."), api.ErrArg},
		"no mask":                         {wide(1), nil, api.ErrArg},
		"a shorter mask":                  {wide(1, 2), mask("x"), api.ErrArg},
		"a longer mask":                   {wide(1, 2), mask("xxx"), api.ErrArg},
		"a shorter mask that lets not be": {wide(1, 2), mask("."), api.ErrArg},
		"a longer mask that lets not be":  {wide(1, 2), mask("..."), api.ErrArg},
		"nothing let be":                  {wide(1, 2), mask(".."), api.ErrMasked},
		"one, not let be":                 {wide(1), mask("."), api.ErrMasked},
		"most, none let be":               {most, none, api.ErrMasked},
		"one more, none let be":           {more(most, 1), more(none, false), api.ErrArg},
		"one more":                        {more(most, 1), more(none, true), api.ErrArg},
		"one more score":                  {more(most, 1), with(none, 0, true), api.ErrArg},
		"one more element":                {most, more(none, true), api.ErrArg},
	} {
		fails[int64](t, name, c.e)(soft.Masked(c.scores, c.mask))
	}
	is(t, "as many as may be", with(make([]int64, api.MaxSeen), 511, whole))(soft.Masked(most, with(none, 511, true)))
}

// 11.4
func TestSloped(t *testing.T) {
	for name, c := range map[string]struct {
		scores []int64
		slope  int64
		want   []int64
	}{
		"one":                             {wide(5), 1 << 20, wide(whole)},
		"equal ones":                      {wide(7, 7, 7, 7), 256, wide(whole/8, whole/4, half, whole)},
		"no slope":                        {wide(256, 0, 256), 0, wide(whole, half, whole)},
		"a slope that evens out":          {wide(768, 512, 256), 256, wide(whole, whole, whole)},
		"the greatest is not the last":    {wide(1024, 512, 256), 256, wide(whole, half, half)},
		"a slope of 1":                    {wide(257, 0), 1, wide(whole, half)},
		"the greatest slope":              {wide(1<<20, 0), 1 << 20, wide(whole, whole)},
		"the greatest slope, a bit off":   {wide(1<<20-256, 0), 1 << 20, wide(half, whole)},
		"the least score":                 {wide(-far, -far), 256, wide(half, whole)},
		"the greatest score":              {wide(far, far-512), 256, wide(whole, half)},
		"the least and the greatest":      {wide(-far, far), 1 << 20, wide(0, whole)},
		"the greatest and the least":      {wide(far, -far), 1 << 20, wide(whole, 0)},
		"the distance from the last only": {wide(0, 0, 0), 128, wide(half, 759204893, whole)},
	} {
		is(t, name, c.want)(soft.Sloped(c.scores, c.slope))
	}
}

// 11.4: held against numbers of any size, from no slope to the greatest.
func TestSlopedByTheWords(t *testing.T) {
	someScores(3, func(scores []int64, s *spread) {
		for _, slope := range wide(0, 1, 2, 17, 255, 256, 5000, 1<<20-1, 1<<20, int64(s.below(1<<20))) {
			is(t, "Sloped", weightsOf(slopedOf(scores, slope)...))(soft.Sloped(scores, slope))
			// With the slope laid on ahead, distances stay small enough to be seen.
			risen := make([]int64, len(scores))
			for i, score := range scores {
				risen[i] = max(-far, min(far, score)) / 2
				risen[i] += slope * int64(len(scores)-1-i)
			}
			is(t, "Sloped back", weightsOf(slopedOf(risen, slope)...))(soft.Sloped(risen, slope))
		}
	})
}

// 11.4, R3, R6
func TestSlopedOfWhatMayNotBe(t *testing.T) {
	for name, c := range map[string]struct {
		scores []int64
		slope  int64
	}{
		"nil":                          {nil, 0},
		"none":                         {wide(), 1},
		"one more than may be":         {make([]int64, api.MaxSeen+1), 1},
		"a slope below 0":              {wide(1), -1},
		"the least slope":              {wide(1), least},
		"a slope one too great":        {wide(1), 1<<20 + 1},
		"the greatest slope":           {wide(1), greatest},
		"a score one too small":        {wide(-far - 1), 0},
		"a score one too great":        {wide(far + 1), 0},
		"the first one":                {wide(far+1, 0, 0), 1},
		"one between":                  {wide(0, -far-1, 0), 1},
		"the last one":                 {wide(0, 0, far+1), 1},
		"the least":                    {wide(0, least), 1},
		"the greatest":                 {wide(greatest, 0), 1},
		"the last of many":             {with(make([]int64, api.MaxSeen), 511, far+1), 1},
		"too many, and too great ones": {filled[int64](api.MaxSeen+1, greatest), greatest},
		"great scores, and a slope":    {filled[int64](api.MaxSeen, greatest), greatest},
	} {
		fails[int64](t, name, api.ErrArg)(soft.Sloped(c.scores, c.slope))
	}
	most := filled[int64](api.MaxSeen, far)
	is(t, "as many as may be", with(make([]int64, api.MaxSeen), 511, whole))(soft.Sloped(most, 1<<20))
	is(t, "of the least", with(make([]int64, api.MaxSeen), 511, whole))(soft.Sloped(filled[int64](api.MaxSeen, -far), 1<<20))
}
