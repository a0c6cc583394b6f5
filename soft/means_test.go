package soft_test

import (
	"testing"

	"herald/api"
	"herald/soft"
)

// 11.2
func TestMean(t *testing.T) {
	most := filled[int64](api.MaxSeen, whole)
	for name, c := range map[string]struct {
		w    []int64
		v    []int8
		want int8
	}{
		"one":                                {wide(1), narrow(5), 5},
		"one of the greatest weight":         {wide(whole), narrow(-128), -128},
		"a half above 0":                     {wide(1, 1), narrow(0, 1), 1},
		"a half below 0":                     {wide(1, 1), narrow(0, -1), 0},
		"a half above an even one":           {wide(1, 1), narrow(2, 3), 3},
		"a half above an even one, below 0":  {wide(1, 1), narrow(-2, -1), -1},
		"a half below an even one, below 0":  {wide(1, 1), narrow(-2, -3), -2},
		"just under a half":                  {wide(whole, whole-1), narrow(0, 1), 0},
		"just over a half":                   {wide(whole-1, whole), narrow(0, 1), 1},
		"just under a half below 0":          {wide(whole, whole-1), narrow(0, -1), 0},
		"just over a half below 0":           {wide(whole-1, whole), narrow(0, -1), -1},
		"a third":                            {wide(2, 1), narrow(0, 1), 0},
		"two thirds":                         {wide(1, 2), narrow(0, 1), 1},
		"a third below 0":                    {wide(2, 1), narrow(0, -1), 0},
		"two thirds below 0":                 {wide(1, 2), narrow(0, -1), -1},
		"what has no weight":                 {wide(0, 1, 0), narrow(127, 3, -128), 3},
		"the least and the greatest":         {wide(1, 1), narrow(-128, 127), 0},
		"all of the greatest":                {most, filled[int8](api.MaxSeen, 127), 127},
		"all of the least":                   {most, filled[int8](api.MaxSeen, -128), -128},
		"the smallest weight among greatest": {with(most, 7, 1), with(filled[int8](api.MaxSeen, -128), 7, 127), -128},
		"half of each":                       {most, append(filled[int8](256, 127), filled[int8](256, -128)...), 0},
		"one above half":                     {most, append(filled[int8](257, 1), filled[int8](255, 0)...), 1},
		"just half":                          {most, append(filled[int8](256, 1), filled[int8](256, 0)...), 1},
		"one below half":                     {most, append(filled[int8](255, 1), filled[int8](257, 0)...), 0},
	} {
		means(t, name, c.want, api.OK)(soft.Mean(c.w, c.v))
	}
}

// 11.2: held against numbers of any size.
func TestMeanByTheWords(t *testing.T) {
	someWeights(4, func(w []int64, s *spread) {
		v := s.numbers(len(w))
		means(t, "Mean", meanOf(w, v), api.OK)(soft.Mean(w, v))
	})
}

// 11.2: of all pairs of weights up to 6 and of small numbers, so that all halves come.
func TestMeanOfTwo(t *testing.T) {
	for a := range int64(7) {
		for b := range int64(7) {
			for x := int8(-6); x <= 6; x++ {
				for y := int8(-6); y <= 6 && a+b > 0; y++ {
					w, v := wide(a, b), narrow(x, y)
					means(t, "Mean", meanOf(w, v), api.OK)(soft.Mean(w, v))
				}
			}
		}
	}
}

// faulty is weights and numbers of which there is no mean, and the error.
func faulty() map[string]struct {
	w []int64
	v []int8
	e api.Errno
} {
	ones, numbers := filled[int64](api.MaxSeen, 1), make([]int8, api.MaxSeen)
	return map[string]struct {
		w []int64
		v []int8
		e api.Errno
	}{
		"nothing":                             {nil, nil, api.ErrMean},
		"nothing, of no length":               {wide(), narrow(), api.ErrMean},
		"no weight":                           {nil, narrow(1), api.ErrArg},
		"no number":                           {wide(1), nil, api.ErrArg},
		"a weight below 0, no number":         {wide(-1), nil, api.ErrArg},
		"fewer weights":                       {wide(1), narrow(1, 2), api.ErrArg},
		"fewer numbers":                       {wide(1, 2), narrow(1), api.ErrArg},
		"fewer numbers, weights that are not": {wide(-1, least), narrow(1), api.ErrArg},
		"fewer weights, all 0":                {wide(0), narrow(1, 2), api.ErrArg},
		"a weight of 0":                       {wide(0), narrow(1), api.ErrMean},
		"all weights 0":                       {wide(0, 0, 0), narrow(1, 2, 3), api.ErrMean},
		"a weight below 0":                    {wide(-1), narrow(1), api.ErrMean},
		"one below 0 behind":                  {wide(5, 5, -1), narrow(1, 2, 3), api.ErrMean},
		"one below 0 ahead":                   {wide(-1, 5, 5), narrow(1, 2, 3), api.ErrMean},
		"weights that sum to 0":               {wide(-1, 1), narrow(1, 2), api.ErrMean},
		"a weight one too great":              {wide(whole + 1), narrow(1), api.ErrMean},
		"one too great behind":                {wide(5, 5, whole+1), narrow(1, 2, 3), api.ErrMean},
		"one too great ahead":                 {wide(whole+1, 5, 5), narrow(1, 2, 3), api.ErrMean},
		"the least weight":                    {wide(5, least), narrow(1, 2), api.ErrMean},
		"the greatest weight":                 {wide(5, greatest), narrow(1, 2), api.ErrMean},
		"all the greatest":                    {wide(greatest, greatest, 2), narrow(1, 2, 3), api.ErrMean}, // they would wrap to 0
		"most, the last too great":            {with(ones, 511, whole+1), numbers, api.ErrMean},
		"most, all 0":                         {make([]int64, api.MaxSeen), numbers, api.ErrMean},
		"one more":                            {more(ones, 1), more(numbers, 1), api.ErrArg},
		"one more, weights that are not":      {more(ones, -1), more(numbers, 1), api.ErrArg},
		"one more, all weights 0":             {make([]int64, api.MaxSeen+1), more(numbers, 1), api.ErrArg},
		"one more weight":                     {more(ones, 1), numbers, api.ErrArg},
		"one more number":                     {ones, more(numbers, 1), api.ErrArg},
	}
}

// 11.2, R2, R3, R6: Means likewise, of rows of one number each and of none.
func TestMeansOfWhatMayNotBe(t *testing.T) {
	for name, c := range faulty() {
		means(t, "Mean, "+name, 0, c.e)(soft.Mean(c.w, c.v))
		rows, none := make([][]int8, len(c.v)), make([][]int8, len(c.v))
		for i, x := range c.v {
			rows[i] = narrow(x)
		}
		fails[int8](t, "Means, "+name, c.e)(soft.Means(c.w, rows))
		fails[int8](t, "Means of no column, "+name, c.e)(soft.Means(c.w, none))
	}
	most := filled[int64](api.MaxSeen, 1)
	means(t, "as many as may be", 3, api.OK)(soft.Mean(most, filled[int8](api.MaxSeen, 3)))
	is(t, "as many rows", narrow(3, -4))(soft.Means(most, filled(api.MaxSeen, narrow(3, -4))))
}

// 11.2, R2: rows of unlike lengths come ahead of weights of which no mean is made.
func TestMeansOfUnlikeRows(t *testing.T) {
	for name, rows := range map[string][][]int8{
		"shorter":          {{1, 2}, {1}, {1, 2}},
		"longer":           {{1, 2}, {1, 2, 3}, {1, 2}},
		"the first longer": {{1, 2, 3}, {1, 2}, {1, 2}},
		"the last longer":  {{1, 2}, {1, 2}, {1, 2, 3}},
		"the last shorter": {{1, 2}, {1, 2}, {1}},
		"the first empty":  {nil, {1, 2}, {1, 2}},
		"the last empty":   {{1, 2}, {1, 2}, {}},
		"all unlike":       {{1}, {1, 2}, {}},
	} {
		for _, w := range [][]int64{wide(1, 1, 1), wide(0, 0, 0), wide(-1, 1, 1), wide(1, 1, whole+1), wide(1, 0, 0), wide(1, 1), nil} {
			fails[int8](t, name, api.ErrArg)(soft.Means(w, rows))
		}
	}
	long := filled(api.MaxSeen+1, narrow(1))
	fails[int8](t, "too many of them", api.ErrArg)(soft.Means(make([]int64, len(long)), with(long, 3, nil)))
}

// 11.2
func TestMeans(t *testing.T) {
	is(t, "one row", narrow(3, -128, 127))(soft.Means(wide(9), [][]int8{{3, -128, 127}}))
	is(t, "halves", narrow(4, -3, 1, 0))(soft.Means(wide(1, 1), [][]int8{{3, -3, 0, 0}, {4, -4, 1, -1}}))
	is(t, "weights", narrow(2, 6))(soft.Means(wide(3, 1), [][]int8{{0, 8}, {8, 0}}))
	is(t, "no weight for one", narrow(1, 2))(soft.Means(wide(0, 7), [][]int8{{127, -128}, {1, 2}}))
	is(t, "rows of no number", narrow())(soft.Means(wide(1, 2), [][]int8{{}, nil}))
	is(t, "one row of no number", narrow())(soft.Means(wide(whole), [][]int8{nil}))
	is(t, "long rows", filled[int8](5000, -7))(soft.Means(wide(1, 1), filled(2, filled[int8](5000, -7))))
}

// 11.2: each column is a mean of its own.
func TestMeansByTheWords(t *testing.T) {
	someWeights(5, func(w []int64, s *spread) {
		for _, columns := range []int{0, 1, 2, 9} {
			rows, want := make([][]int8, len(w)), make([]int8, columns)
			for i := range rows {
				rows[i] = s.numbers(columns)
			}
			for column := range want {
				v := make([]int8, len(w))
				for i, row := range rows {
					v[i] = row[column]
				}
				want[column] = meanOf(w, v)
			}
			is(t, "Means", want)(soft.Means(w, rows))
		}
	})
}

// 11.5
func TestBest(t *testing.T) {
	for name, c := range map[string]struct {
		w    []int64
		v    []int8
		want int8
		at   int
	}{
		"one":                     {wide(1), narrow(5), 5, 0},
		"the first":               {wide(3, 2, 1), narrow(-4, 5, 6), -4, 0},
		"the last":                {wide(0, 2, whole), narrow(4, 5, -128), -128, 2},
		"between":                 {wide(1, 3, 2), narrow(4, 127, 6), 127, 1},
		"several":                 {wide(1, 3, 0, 3, 3), narrow(4, 5, 6, 7, 8), 5, 1},
		"all alike":               {wide(2, 2, 2), narrow(4, 5, 6), 4, 0},
		"the greatest several":    {wide(0, whole, whole), narrow(4, 5, 6), 5, 1},
		"not the greatest number": {wide(1, 2), narrow(127, -127), -127, 1},
		"the last of many":        {with(filled[int64](api.MaxSeen, 8), 511, 9), with(make([]int8, api.MaxSeen), 511, 3), 3, 511},
	} {
		finds(t, name, c.want, c.at, api.OK)(soft.Best(c.w, c.v))
	}
}

// 11.5: held against a walk of its own.
func TestBestByTheWords(t *testing.T) {
	someWeights(6, func(w []int64, s *spread) {
		v, at := s.numbers(len(w)), 0
		for i, x := range w {
			if x > w[at] {
				at = i
			}
		}
		finds(t, "Best", v[at], at, api.OK)(soft.Best(w, v))
	})
}

// 11.5, R2: the error of Mean.
func TestBestOfWhatMayNotBe(t *testing.T) {
	for name, c := range faulty() {
		finds(t, name, 0, 0, c.e)(soft.Best(c.w, c.v))
	}
}
