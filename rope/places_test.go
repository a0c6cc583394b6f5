package rope_test

import (
	"slices"
	"testing"

	"herald/api"
	"herald/rope"
)

// turns asks for just these rows, the place 0 and no error.
func turns(t *testing.T, what string, want [][]int8) func(rows [][]int8, at int, e api.Errno) {
	return func(rows [][]int8, at int, e api.Errno) {
		t.Helper()
		if !slices.EqualFunc(rows, want, slices.Equal) || at != 0 || e != api.OK {
			t.Errorf("%s: %v, %d, %d and not %v", what, rows, at, e, want)
		}
	}
}

// stops asks for an error at a place, and for no rows beside it.
func stops(t *testing.T, what string, place int, want api.Errno) func(rows [][]int8, at int, e api.Errno) {
	return func(rows [][]int8, at int, e api.Errno) {
		t.Helper()
		if len(rows) != 0 || at != place || e != want {
			t.Errorf("%s: %v, %d, %d and not %d, %d", what, rows, at, e, place, want)
		}
	}
}

// 10.4: each place of tables of all sizes of heads.
func TestAt(t *testing.T) {
	s := spread(3)
	for half := 1; half <= api.MaxHalf; half++ {
		for _, places := range []int{1, 2, 7, api.MaxTable, api.MaxTable + 1} { // a table of one's own may be longer
			cos, sin := s.row(places*half), s.row(places*half)
			for place := range places {
				from, to := place*half, place*half+half
				are(t, "At", cos[from:to], sin[from:to])(rope.At(cos, sin, half, place))
			}
			refused(t, "one beyond", api.ErrArg)(rope.At(cos, sin, half, places))
		}
	}
}

// 10.4, R2, R6: the size of a head, then the lengths, then the place.
func TestAtOfWhatMayNotBe(t *testing.T) {
	two, three := narrow(1, 2), narrow(1, 2, 3)
	for name, c := range map[string]struct {
		cos, sin    []int8
		half, place int
		e           api.Errno
	}{
		"half 0":                     {two, two, 0, 0, api.ErrPlaces},
		"half 0 of nothing":          {nil, nil, 0, 0, api.ErrPlaces},
		"half -1":                    {two, two, -1, 0, api.ErrPlaces},
		"half -2":                    {two, two, -2, 0, api.ErrPlaces},
		"half 33":                    {make([]int8, 66), make([]int8, 66), api.MaxHalf + 1, 0, api.ErrPlaces},
		"the least half":             {two, two, least, 0, api.ErrPlaces},
		"the greatest half":          {two, two, greatest, 0, api.ErrPlaces},
		"half ahead of the lengths":  {two, three, 0, 0, api.ErrPlaces},
		"half ahead of the place":    {two, two, 33, 5, api.ErrPlaces},
		"a sine more":                {two, three, 1, 0, api.ErrAngles},
		"a cosine more":              {three, two, 1, 0, api.ErrAngles},
		"no sines":                   {two, nil, 1, 0, api.ErrAngles},
		"no cosines":                 {nil, two, 1, 0, api.ErrAngles},
		"a place of sines more":      {two, make([]int8, 4), 2, 0, api.ErrAngles},
		"no multiple":                {three, three, 2, 0, api.ErrAngles},
		"too short":                  {two, two, 3, 0, api.ErrAngles},
		"lengths ahead of the place": {three, two, 1, 9, api.ErrAngles},
		"a multiple ahead of it":     {three, three, 2, -1, api.ErrAngles},
		"no place":                   {nil, nil, 1, 0, api.ErrArg},
		"no place, 32":               {narrow(), nil, api.MaxHalf, 0, api.ErrArg},
		"one beyond":                 {two, two, 1, 2, api.ErrArg},
		"one beyond, by two":         {two, two, 2, 1, api.ErrArg},
		"-1":                         {two, two, 1, -1, api.ErrArg},
		"the least place":            {two, two, 2, least, api.ErrArg},
		"the greatest place":         {two, two, 2, greatest, api.ErrArg},
		"a product that wraps to 0":  {two, two, 2, 1 << 63 / 2, api.ErrArg},
		"and below 0":                {two, two, 2, -1 << 63 / 2, api.ErrArg},
	} {
		refused(t, name, c.e)(rope.At(c.cos, c.sin, c.half, c.place))
	}
}

// 10.4
func TestRows(t *testing.T) {
	cos, sin, _ := rope.Table(4, 1)
	x := narrow(100, 1)
	turns(t, "all places", [][]int8{{100, 1}, {-1, 100}, {-100, -1}, {1, -100}})(rope.Rows([][]int8{x, x, x, x}, 2, cos, sin, 0))
	turns(t, "the last ones", [][]int8{{-100, -1}, {1, -100}})(rope.Rows([][]int8{x, x}, 2, cos, sin, 2))
	turns(t, "of unlike lengths", [][]int8{{-1, 100, -4, 3}, {}, {2, -9}})(rope.Rows([][]int8{{100, 1, 3, 4}, nil, {9, 2}}, 2, cos, sin, 1))
	turns(t, "empty ones", [][]int8{nil, nil, nil, nil})(rope.Rows(make([][]int8, 4), 2, cos, sin, 0))
}

// 10.4: without a row there is none that could be refused, whatever the rest.
func TestRowsOfNone(t *testing.T) {
	for _, size := range []int{2, 4, 0, 1, 3, -2, 66, least, greatest} {
		for _, first := range []int{0, 1, -1, least, greatest} {
			turns(t, "nil", nil)(rope.Rows(nil, size, narrow(1), narrow(1), first))
			turns(t, "none", nil)(rope.Rows([][]int8{}, size, nil, narrow(1), first))
		}
	}
}

// 10.4: by the words: each row is turned by what At tells of its place.
func TestRowsByTheirWords(t *testing.T) {
	s := spread(4)
	for half := 1; half <= api.MaxHalf; half++ {
		cos, sin := s.row(6*half), s.row(6*half)
		for first := range 6 {
			xs, want := [][]int8{}, [][]int8{}
			for place := first; place < 6; place++ {
				x := s.row(2 * half * s.below(4))
				xs = append(xs, x)
				want = append(want, turnedOf(x, 2*half, cos[place*half:][:half], sin[place*half:][:half], false))
			}
			turns(t, "Rows", want)(rope.Rows(xs, 2*half, cos, sin, first))
			stops(t, "a row more", 6-first, api.ErrArg)(rope.Rows(append(xs, nil), 2*half, cos, sin, first))
		}
	}
}

// 10.4, R2, R6: the first row's error, and of one row the size's ahead of At's ahead of Turn's.
func TestRowsOfWhatMayNotBe(t *testing.T) {
	good, bad := narrow(1, 2), narrow(1, 2, 3)
	two := narrow(1, 2)
	for name, c := range map[string]struct {
		xs       [][]int8
		size     int
		cos, sin []int8
		first    int
		at       int
		e        api.Errno
	}{
		"size 0":                        {[][]int8{good}, 0, two, two, 0, 0, api.ErrHead},
		"size 1":                        {[][]int8{good}, 1, two, two, 0, 0, api.ErrHead},
		"size 3":                        {[][]int8{bad}, 3, two, two, 0, 0, api.ErrHead},
		"size -2":                       {[][]int8{good}, -2, two, two, 0, 0, api.ErrHead},
		"the least size":                {[][]int8{good}, least, two, two, 0, 0, api.ErrHead},
		"the greatest size":             {[][]int8{good}, greatest, two, two, 0, 0, api.ErrHead},
		"size 67, odd ahead of great":   {[][]int8{good}, 67, two, two, 0, 0, api.ErrHead},
		"size ahead of the lengths":     {[][]int8{good}, 3, two, bad, 0, 0, api.ErrHead},
		"size ahead of the place":       {[][]int8{good}, 0, two, two, 7, 0, api.ErrHead},
		"size 66":                       {[][]int8{make([]int8, 66)}, 66, make([]int8, 33), make([]int8, 33), 0, 0, api.ErrPlaces},
		"the greatest even size":        {[][]int8{good}, greatest - 1, two, two, 0, 0, api.ErrPlaces},
		"size 66 ahead of the lengths":  {[][]int8{bad}, 66, two, bad, -1, 0, api.ErrPlaces},
		"unlike lengths":                {[][]int8{good}, 2, two, bad, 0, 0, api.ErrAngles},
		"no multiple":                   {[][]int8{{1, 2, 3, 4}}, 4, bad, bad, 0, 0, api.ErrAngles},
		"lengths ahead of the place":    {[][]int8{good}, 2, two, bad, 9, 0, api.ErrAngles},
		"lengths ahead of the row":      {[][]int8{bad}, 2, two, bad, 0, 0, api.ErrAngles},
		"no angles":                     {[][]int8{good}, 2, nil, nil, 0, 0, api.ErrArg},
		"a place below 0":               {[][]int8{good, good}, 2, two, two, -1, 0, api.ErrArg},
		"the least place":               {[][]int8{good, good}, 2, two, two, least, 0, api.ErrArg},
		"the greatest place":            {[][]int8{good, good}, 2, two, two, greatest, 0, api.ErrArg},
		"one beyond":                    {[][]int8{good}, 2, two, two, 2, 0, api.ErrArg},
		"the second beyond":             {[][]int8{good, good}, 2, two, two, 1, 1, api.ErrArg},
		"the third beyond":              {[][]int8{good, good, good, good}, 2, two, two, 0, 2, api.ErrArg},
		"the place ahead of the row":    {[][]int8{good, bad}, 2, two, two, 1, 1, api.ErrArg},
		"an empty row beyond":           {[][]int8{nil, nil, nil}, 2, two, two, 0, 2, api.ErrArg},
		"the first is no row of heads":  {[][]int8{bad, good}, 2, two, two, 0, 0, api.ErrHead},
		"the second is none":            {[][]int8{good, bad}, 2, two, two, 0, 1, api.ErrHead},
		"half a head":                   {[][]int8{good}, 4, two, two, 0, 0, api.ErrHead},
		"the second ahead of the third": {[][]int8{good, bad, good}, 2, two, two, 0, 1, api.ErrHead},
		"both are none":                 {[][]int8{bad, bad}, 2, two, two, 0, 0, api.ErrHead},
	} {
		stops(t, name, c.at, c.e)(rope.Rows(c.xs, c.size, c.cos, c.sin, c.first))
	}
}
