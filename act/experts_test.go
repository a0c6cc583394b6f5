package act_test

import (
	"slices"
	"testing"

	"herald/act"
	"herald/api"
)

// scored is a router of one column, and h of one number, by which the scores are these.
func scored(scores ...int8) (router, h []int8) { return scores, narrow(1) }

// 12.5
func TestChoose(t *testing.T) {
	for name, c := range map[string]struct {
		router, h []int8
		shift, k  int
		places    []int
		weights   []int64
	}{
		"the only one":                  {narrow(-5), narrow(7), 0, 1, []int{0}, wide(whole)},
		"the greatest":                  {narrow(1, 9, 5), narrow(1), 0, 1, []int{1}, wide(whole)},
		"equal ones as they stand":      {narrow(3, 7, 7, 3, 7), narrow(1), 0, 2, []int{1, 2}, wide(32768, 32768)},
		"three equal ones, one missing": {narrow(4, 4, 4), narrow(1), 0, 3, []int{0, 1, 2}, wide(21846, 21845, 21845)},
		"a factor of 2":                 {narrow(0, 64), narrow(4), 0, 2, []int{1, 0}, wide(43691, 21845)},
		"all below 0":                   {narrow(-64, -128), narrow(4), 0, 2, []int{0, 1}, wide(43691, 21845)},
		"shifted":                       {narrow(0, 127), narrow(127), 62, 2, []int{0, 1}, wide(32768, 32768)},
		"unlike by the shift":           {narrow(2, 6), narrow(1), 2, 2, []int{1, 0}, wide(32857, 32679)}, // 0.5 is 0, 1.5 is 2: 2^(-2 / 256) is 0.9946
		"halves to the even one":        {narrow(1, 0), narrow(1), 1, 2, []int{0, 1}, wide(32768, 32768)},
		"too far to weigh":              {narrow(127, -128), narrow(127), 0, 2, []int{0, 1}, wide(whole, 0)},
		"the last that weighs":          {narrow(0, 64), narrow(63), 0, 2, []int{1, 0}, wide(65535, 1)}, // 2^-15.75 of 65536 is 1.19
		"several columns":               {narrow(1, 2, 3, 1, 2, 3, 0, 0, 1), narrow(1, 1, 1), 0, 2, []int{0, 1}, wide(32768, 32768)},
	} {
		chooses(t, name, c.places, c.weights, api.OK)(act.Choose(c.router, c.h, c.shift, c.k))
	}
}

// 12.5: held against numbers of any size, for each k.
func TestChooseByTheWords(t *testing.T) {
	s := spread(4)
	for experts := 1; experts < 24; experts++ {
		for _, cols := range []int{1, 2, 5, 16} {
			router, h, shift := s.numbers(experts*cols), s.numbers(cols), s.below(9)
			scores := scaledOf(timesOf(router, h), shift)
			for k := 1; k <= experts; k++ {
				places, weights := chosenOf(scores, k)
				chooses(t, "Choose", places, weights, api.OK)(act.Choose(router, h, shift, k))
			}
		}
	}
}

// 12.5: each distance of two scores at which the lesser one weighs, and more.
func TestChooseOfEachDistance(t *testing.T) {
	for distance := range int64(5000) {
		low := distance / 127
		router := narrow(int8(distance%127), 1, int8(low), 0, 0, 0, 0, 0)
		h := narrow(1, 0, 127, 0) // the first score is the distance, the second one 0
		places, weights := chosenOf(wide(distance, 0), 2)
		chooses(t, "Choose", places, weights, api.OK)(act.Choose(router, h, 0, 2))
	}
}

// 12.5, R6: as many experts as may be, and the greatest scores.
func TestChooseOfMany(t *testing.T) {
	most := filled[int8](api.MaxCells, 1)
	chooses(t, "the last one", []int{api.MaxCells - 1}, wide(whole), api.OK)(act.Choose(with(most, api.MaxCells-1, 2), narrow(1), 0, 1))
	l, w, e := act.Choose(with(most, 77, 2), narrow(0), 0, api.MaxCells)
	if len(l) != api.MaxCells || len(w) != api.MaxCells || e != api.OK {
		t.Fatal("Choose", len(l), len(w), e)
	}
	for i, place := range l {
		if place != i || w[i] != 0 && i > 0 || i == 0 && w[0] != whole {
			t.Fatal("Choose", i, place, w[i]) // 65536 / 1048576 of each is none
		}
	}
	half := append(filled[int8](api.MaxCells/2, -128), filled[int8](api.MaxCells/2, 127)...)
	far := filled[int8](api.MaxCells/2, -128) // the scores are 2^33 and nearly -2^33
	chooses(t, "far off", []int{0, 1}, wide(whole, 0), api.OK)(act.Choose(half, far, 0, 2))
}

// 12.5, R2, R6
func TestChooseOfWhatMayNotBe(t *testing.T) {
	many := filled[int8](api.MaxCells+1, 1)
	router, h := scored(1, 2, 3)
	for name, c := range map[string]struct {
		router, h []int8
		shift, k  int
		e         api.Errno
	}{
		"too great a router":           {many, h, 0, 1, api.ErrCells},
		"too great, and no h":          {many, nil, -1, 0, api.ErrCells},
		"no h":                         {router, nil, 0, 1, api.ErrLengths},
		"no h, and no router":          {nil, nil, 0, 1, api.ErrLengths},
		"no row of h's length":         {router, narrow(1, 2), 0, 1, api.ErrLengths},
		"no rows, no shift, no k":      {router, narrow(1, 2), -1, 0, api.ErrLengths},
		"shift below 0":                {router, h, -1, 1, api.ErrShift},
		"shift too great":              {router, h, 63, 1, api.ErrShift},
		"no shift of no experts":       {nil, h, 63, 1, api.ErrShift},
		"no shift, and k 0":            {router, h, 63, 0, api.ErrShift},
		"no shift, and k too great":    {router, h, least, 4, api.ErrShift},
		"k 0":                          {router, h, 0, 0, api.ErrKind},
		"k below 0":                    {router, h, 0, -1, api.ErrKind},
		"k one too great":              {router, h, 0, 4, api.ErrKind},
		"the least k":                  {router, h, 0, least, api.ErrKind},
		"the greatest k":               {router, h, 0, greatest, api.ErrKind},
		"no experts":                   {nil, h, 0, 1, api.ErrKind},
		"no experts, and none chosen":  {nil, h, 0, 0, api.ErrKind},
		"a h too long for any experts": {nil, many, 0, 1, api.ErrKind},
	} {
		chooses(t, name, nil, nil, c.e)(act.Choose(c.router, c.h, c.shift, c.k))
	}
}

// says is a middle that says these numbers of a first number of h that is 64, whatever the others are.
func says(cols int, numbers ...int8) api.Middle {
	way := with(make([]int8, cols), 0, 64)
	return api.Middle{Gate: way, Up: way, Down: numbers, GateS: 6, UpS: 6, DownS: 6}
}

// 12.5
func TestExperts(t *testing.T) {
	h, bend := narrow(64, 1), cut(t)
	equal, apart := narrow(1, 0, 1, 0, 1, 0), narrow(0, 0, 4, 0, 0, 0) // apart: 256 points
	for name, c := range map[string]struct {
		router []int8
		k      int
		l      []api.Middle
		want   []int64
	}{
		"one of one":            {narrow(1, 0), 1, []api.Middle{says(2, 5, -5)}, wide(5, -5)},
		"the first of equals":   {equal, 1, []api.Middle{says(2, 5), says(2, 7), says(2, 9)}, wide(5)},
		"half of two":           {equal, 2, []api.Middle{says(2, 5, 1), says(2, 7, 2), says(2, 99, 99)}, wide(6, 2)},
		"half below 0":          {equal, 2, []api.Middle{says(2, -5, -1), says(2, -7, -2), says(2, 99, 99)}, wide(-6, -2)},
		"half to the even one":  {equal, 2, []api.Middle{says(2, 0, 2), says(2, 1, 3), {}}, wide(0, 2)},
		"two thirds":            {apart, 2, []api.Middle{says(2, 0, 30), says(2, 120, 0), {}}, wide(80, 10)},
		"half, and two fourths": {apart, 3, []api.Middle{says(2, 0, 64), says(2, 120, 0), says(2, 40, 64)}, wide(70, 32)},
		"no rows":               {equal, 2, []api.Middle{says(2), says(2), says(2, 1)}, nil},
	} {
		is(t, name, c.want)(act.Experts(c.router, 0, c.k, c.l, bend, h))
	}
}

// 12.5: held against numbers of any size, for each k.
func TestExpertsByTheWords(t *testing.T) {
	s := spread(5)
	for _, bend := range [][]int8{cut(t), smooth(t), s.numbers(256)} {
		for experts := 1; experts < 7; experts++ {
			for _, cols := range []int{1, 3, 8} {
				router, h, shift, rows := s.numbers(experts*cols), s.numbers(cols), s.below(9), s.below(6)
				l := make([]api.Middle, experts)
				for i := range l {
					l[i] = s.middle(cols, 1+s.below(5), rows)
				}
				for k := 1; k <= experts; k++ {
					is(t, "Experts", expertsOf(router, shift, k, l, bend, h))(act.Experts(router, shift, k, l, bend, h))
				}
			}
		}
	}
}

// 12.5: the greatest numbers that come out, of as many experts as there may be.
func TestGreatExperts(t *testing.T) {
	way := filled[int8](api.MaxCells, -128)
	b := api.Middle{Gate: way, Up: way, Down: way}
	is(t, "the greatest", wide(-127*128*api.MaxCells))(act.Experts(narrow(0, 0), 0, 2, []api.Middle{b, b}, cut(t), narrow(-128)))
	many := filled(api.MaxCells, says(1, 5))
	many[3] = says(1, 9)
	is(t, "many", wide(5))(act.Experts(make([]int8, api.MaxCells), 0, api.MaxCells, many, cut(t), narrow(64)))
}

// 12.5, R2
func TestExpertsOfWhatMayNotBe(t *testing.T) {
	good, many := says(2, 1, 2), filled[int8](2*api.MaxCells, 1)
	wrong, wider := api.Middle{Gate: narrow(1, 2, 3)}, says(2, 1, 2, 3)
	tooGreat := api.Middle{Gate: many}
	badShift := says(2, 1, 2)
	badShift.DownS = 63
	three, bend, h := []api.Middle{good, good, good}, cut(t), narrow(64, 1)
	router := narrow(1, 0, 3, 0, 2, 0) // the order is 1, 2, 0
	for name, c := range map[string]struct {
		router   []int8
		shift, k int
		l        []api.Middle
		bend, h  []int8
		e        api.Errno
	}{
		"too great a router":                   {many, -1, 0, nil, nil, nil, api.ErrCells},
		"no h":                                 {router, -1, 0, nil, nil, nil, api.ErrLengths},
		"no row of h's length":                 {router, 0, 1, three, bend, narrow(1, 2, 3, 4), api.ErrLengths},
		"no shift":                             {router, 63, 0, nil, nil, h, api.ErrShift},
		"shift below 0":                        {router, -1, 1, three, bend, h, api.ErrShift},
		"k 0":                                  {router, 0, 0, nil, nil, h, api.ErrKind},
		"k too great":                          {router, 0, 4, three, bend, h, api.ErrKind},
		"k too great of too many middles":      {router, 0, 4, append(three, good), bend, h, api.ErrKind},
		"no experts":                           {nil, 0, 1, nil, bend, h, api.ErrKind},
		"no middles":                           {router, 0, 1, nil, nil, h, api.ErrLengths},
		"a middle too few":                     {router, 0, 1, three[:2], bend, h, api.ErrLengths},
		"a middle too many":                    {router, 0, 1, append(three, good), bend, h, api.ErrLengths},
		"too few, and no bend":                 {router, 0, 1, three[:2], nil, h, api.ErrLengths},
		"too few, and a wrong one":             {router, 0, 1, []api.Middle{good, badShift}, bend, h, api.ErrLengths},
		"no bend":                              {router, 0, 1, three, nil, h, api.ErrBend},
		"the first chosen is wrong":            {router, 0, 3, []api.Middle{badShift, tooGreat, wrong}, bend, h, api.ErrCells},
		"the second chosen is wrong":           {router, 0, 3, []api.Middle{badShift, good, tooGreat}, bend, h, api.ErrCells},
		"the third chosen is wrong":            {router, 0, 3, []api.Middle{badShift, good, good}, bend, h, api.ErrShift},
		"unlike lengths":                       {router, 0, 2, []api.Middle{good, wider, good}, bend, h, api.ErrLengths},
		"unlike lengths of the last":           {router, 0, 3, []api.Middle{wider, good, good}, bend, h, api.ErrLengths},
		"unlike lengths in the middle":         {router, 0, 3, []api.Middle{good, good, wider}, bend, h, api.ErrLengths},
		"no rows beside rows":                  {router, 0, 2, []api.Middle{good, says(2), good}, bend, h, api.ErrLengths},
		"rows beside no rows":                  {router, 0, 2, []api.Middle{good, good, says(2)}, bend, h, api.ErrLengths},
		"unlike lengths behind a wrong one":    {router, 0, 3, []api.Middle{badShift, good, wider}, bend, h, api.ErrShift},
		"unlike first, and the last is wrong":  {router, 0, 3, []api.Middle{tooGreat, wider, good}, bend, h, api.ErrCells},
		"unlike lengths of one that counts 0":  {narrow(127, 0, 0, 0), 0, 2, []api.Middle{good, wider}, bend, h, api.ErrLengths},
		"an error of one that counts for 0":    {narrow(127, 0, 0, 0), 0, 2, []api.Middle{good, badShift}, bend, h, api.ErrShift},
		"unlike lengths, and rows of one size": {router, 0, 3, []api.Middle{wider, wider, good}, bend, h, api.ErrLengths},
	} {
		fails[int64](t, name, c.e)(act.Experts(c.router, c.shift, c.k, c.l, c.bend, c.h))
	}
}

// 12.5: rows of unlike lengths of those that are not chosen don't matter.
func TestUnlikeRowsOfOthers(t *testing.T) {
	l := []api.Middle{says(2, 1, 2, 3), says(2, 4, 5), says(2, 4, 5)}
	is(t, "Experts", wide(4, 5))(act.Experts(narrow(1, 0, 3, 0, 2, 0), 0, 2, l, cut(t), narrow(64, 1)))
	slices.Reverse(l)
	is(t, "Experts", wide(4, 5))(act.Experts(narrow(2, 0, 3, 0, 1, 0), 0, 2, l, cut(t), narrow(64, 1)))
}
