package rope_test

import (
	"testing"

	"herald/api"
	"herald/rope"
)

// 10.1
func TestTurn(t *testing.T) {
	for name, c := range map[string]struct {
		x        []int8
		size     int
		cos, sin []int8
		want     []int8
		back     []int8
	}{
		"no head":                 {nil, 2, narrow(5), narrow(6), nil, nil},
		"no head of a great size": {narrow(), 4, narrow(5, 6), narrow(7, 8), nil, nil},
		"by none":                 {narrow(3, -4), 2, narrow(64), narrow(0), narrow(3, -4), narrow(3, -4)},
		"by a quarter":            {narrow(3, 4), 2, narrow(0), narrow(64), narrow(-4, 3), narrow(4, -3)},
		"by a half":               {narrow(3, 4), 2, narrow(-64), narrow(0), narrow(-3, -4), narrow(-3, -4)},
		"by three quarters":       {narrow(3, 4), 2, narrow(0), narrow(-64), narrow(4, -3), narrow(-4, 3)},
		"by nothing at all":       {narrow(127, -128), 2, narrow(0), narrow(0), narrow(0, 0), narrow(0, 0)},
		"each pair its own angle": {narrow(10, 20, 30, 40), 4, narrow(64, 0), narrow(0, 64), narrow(10, 20, -40, 30), narrow(10, 20, 40, -30)},
		"each head anew":          {narrow(1, 2, 3, 4, 5, 6, 7, 8), 4, narrow(64, 0), narrow(0, 64), narrow(1, 2, -4, 3, 5, 6, -8, 7), narrow(1, 2, 4, -3, 5, 6, 8, -7)},
		"halves to the even one":  {narrow(1, 3, -1, -3), 2, narrow(32), narrow(0), narrow(0, 2, 0, -2), narrow(0, 2, 0, -2)},
		"a half by the sine":      {narrow(1, 3), 2, narrow(0), narrow(32), narrow(-2, 0), narrow(2, 0)},
		"rounded behind the sum":  {narrow(1, 1), 2, narrow(32), narrow(32), narrow(0, 1), narrow(1, 0)},
		"narrowed above":          {narrow(127, 127), 2, narrow(64), narrow(-64), narrow(127, 0), narrow(0, 127)},
		"narrowed below":          {narrow(-128, -128), 2, narrow(64), narrow(-64), narrow(-127, 0), narrow(0, -127)},
		"the greatest sum":        {narrow(-128, -128), 2, narrow(-128), narrow(-128), narrow(0, 127), narrow(127, 0)},
		"the least difference":    {narrow(-128, 127), 2, narrow(127), narrow(127), narrow(-127, -2), narrow(-2, 127)},
	} {
		is(t, name, c.want)(rope.Turn(c.x, c.size, c.cos, c.sin))
		is(t, name+", back", c.back)(rope.Back(c.x, c.size, c.cos, c.sin))
	}
}

// 10.1: all sums that four numbers near the ends can make, and of all that two can make.
func TestTurnOfTheEnds(t *testing.T) {
	ends := narrow(-128, -127, -65, -64, -63, -1, 0, 1, 32, 63, 64, 65, 126, 127)
	for _, a := range ends {
		for _, b := range ends {
			x := narrow(a, b)
			for _, c := range ends {
				for _, s := range ends {
					cos, sin := narrow(c), narrow(s)
					is(t, "Turn", turnedOf(x, 2, cos, sin, false))(rope.Turn(x, 2, cos, sin))
					is(t, "Back", turnedOf(x, 2, cos, sin, true))(rope.Back(x, 2, cos, sin))
				}
			}
		}
	}
}

// 10.1: held against numbers of any size.
func TestTurnByItsWords(t *testing.T) {
	someHeads(1, func(x []int8, size int, cos, sin []int8) {
		is(t, "Turn", turnedOf(x, size, cos, sin, false))(rope.Turn(x, size, cos, sin))
		is(t, "Back", turnedOf(x, size, cos, sin, true))(rope.Back(x, size, cos, sin))
	})
}

// 10.1, R6: no limit is named for a row or a head, so great ones are turned like small ones.
func TestTurnOfGreatRows(t *testing.T) {
	s := spread(2)
	x, cos, sin := s.row(1<<16), s.row(1<<15), s.row(1<<15)
	is(t, "one head", turnedOf(x, 1<<16, cos, sin, false))(rope.Turn(x, 1<<16, cos, sin))
	is(t, "many heads", turnedOf(x, 2, cos[:1], sin[:1], true))(rope.Back(x, 2, cos[:1], sin[:1]))
}

// 10.1, R2: the size ahead of the angles.
func TestTurnOfWhatMayNotBe(t *testing.T) {
	for name, c := range map[string]struct {
		x        []int8
		size     int
		cos, sin []int8
		e        api.Errno
	}{
		"size 0":                        {narrow(1, 2), 0, nil, nil, api.ErrHead},
		"size 0 of nothing":             {nil, 0, nil, nil, api.ErrHead},
		"size 1":                        {narrow(1, 2), 1, nil, nil, api.ErrHead},
		"size -1":                       {narrow(1, 2), -1, nil, nil, api.ErrHead},
		"size -2":                       {narrow(1, 2), -2, narrow(1), narrow(1), api.ErrHead},
		"size -2 of nothing":            {nil, -2, nil, nil, api.ErrHead},
		"size 3":                        {narrow(1, 2, 3), 3, narrow(1), narrow(1), api.ErrHead},
		"size 3, two":                   {narrow(1, 2, 3), 3, narrow(1, 2), narrow(1, 2), api.ErrHead},
		"size 3 of nothing":             {nil, 3, narrow(1), narrow(1), api.ErrHead},
		"the least size":                {narrow(1, 2), least, nil, nil, api.ErrHead},
		"the greatest size":             {narrow(1, 2), greatest, nil, nil, api.ErrHead},
		"the greatest size of nothing":  {nil, greatest, nil, nil, api.ErrHead},
		"the greatest even size":        {narrow(1, 2), greatest - 1, nil, nil, api.ErrHead},
		"one number":                    {narrow(1), 2, narrow(1), narrow(1), api.ErrHead},
		"half a head":                   {narrow(1, 2), 4, narrow(1, 2), narrow(1, 2), api.ErrHead},
		"a head and a half":             {narrow(1, 2, 3, 4, 5, 6), 4, narrow(1, 2), narrow(1, 2), api.ErrHead},
		"no heads, no angles":           {narrow(1, 2, 3), 2, nil, narrow(1, 2), api.ErrHead},
		"odd, no angles":                {narrow(1, 2, 3), 3, nil, narrow(1, 2), api.ErrHead},
		"no cosine":                     {narrow(1, 2), 2, nil, narrow(1), api.ErrAngles},
		"no sine":                       {narrow(1, 2), 2, narrow(1), nil, api.ErrAngles},
		"neither":                       {narrow(1, 2), 2, nil, nil, api.ErrAngles},
		"a cosine more":                 {narrow(1, 2), 2, narrow(1, 2), narrow(1), api.ErrAngles},
		"a sine more":                   {narrow(1, 2), 2, narrow(1), narrow(1, 2), api.ErrAngles},
		"both more":                     {narrow(1, 2), 2, narrow(1, 2), narrow(1, 2), api.ErrAngles},
		"a cosine fewer":                {narrow(1, 2, 3, 4), 4, narrow(1), narrow(1, 2), api.ErrAngles},
		"a sine fewer":                  {narrow(1, 2, 3, 4), 4, narrow(1, 2), narrow(1), api.ErrAngles},
		"as many as numbers":            {narrow(1, 2, 3, 4), 4, narrow(1, 2, 3, 4), narrow(1, 2, 3, 4), api.ErrAngles},
		"as many as pairs of two heads": {narrow(1, 2, 3, 4), 2, narrow(1, 2), narrow(1, 2), api.ErrAngles},
		"their sum is the right one":    {narrow(1, 2, 3, 4), 4, narrow(1), narrow(1, 2, 3), api.ErrAngles},
		"nothing to turn":               {nil, 2, nil, narrow(1), api.ErrAngles},
		"nothing of the greatest size":  {nil, greatest - 1, narrow(1), narrow(1), api.ErrAngles},
	} {
		fails(t, name, c.e)(rope.Turn(c.x, c.size, c.cos, c.sin))
		fails(t, name+", back", c.e)(rope.Back(c.x, c.size, c.cos, c.sin))
	}
}
