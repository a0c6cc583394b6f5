package act_test

import (
	"slices"
	"testing"

	"herald/act"
	"herald/api"
)

// 12.2: each bent number with each other one, held against numbers of any size; a bend that names each place rightly is asked for by one without order.
func TestGateByTheWords(t *testing.T) {
	s := spread(1)
	bends := [][]int8{cut(t), smooth(t), square(t), s.numbers(256), every(), filled[int8](256, -128)}
	for _, bend := range bends {
		for _, x := range every() {
			gate := filled(256, x)
			is(t, "Gate", gateOf(bend, gate, every()))(act.Gate(bend, gate, every()))
		}
		for n := range 40 {
			gate, up := s.numbers(n), s.numbers(n)
			is(t, "Gate of some", gateOf(bend, gate, up))(act.Gate(bend, gate, up))
		}
	}
}

// 12.2
func TestGate(t *testing.T) {
	one := with(make([]int8, 256), 255, 64) // 64 at -1 alone
	for name, c := range map[string]struct{ bend, gate, up, want []int8 }{
		"none":                        {cut(t), nil, nil, nil},
		"empty":                       {cut(t), narrow(), nil, narrow()},
		"all open":                    {cut(t), narrow(64, 64), narrow(5, -5), narrow(5, -5)},
		"the least up":                {cut(t), narrow(64), narrow(-128), narrow(-127)},
		"too great":                   {cut(t), narrow(127, 127), narrow(127, -127), narrow(127, -127)},
		"shut":                        {cut(t), narrow(0, -128, -1), narrow(127, 127, -128), narrow(0, 0, 0)},
		"half, to the even one":       {cut(t), narrow(32, 32, 32), narrow(1, 3, 5), narrow(0, 2, 2)},
		"half below 0":                {cut(t), narrow(32, 32, 32), narrow(-1, -3, -5), narrow(0, -2, -2)},
		"just above half":             {cut(t), narrow(33, 33), narrow(1, -1), narrow(1, -1)},
		"the last place is -1's":      {one, narrow(-1, 127, 0, -128), narrow(9, 9, 9, 9), narrow(9, 0, 0, 0)},
		"the bend's least and up's":   {filled[int8](256, -128), narrow(3), narrow(-128), narrow(127)},
		"the bend's least by 1":       {filled[int8](256, -128), narrow(3), narrow(1), narrow(-2)},
		"bends of the gate, not up's": {cut(t), narrow(-64), narrow(64), narrow(0)},
	} {
		is(t, name, c.want)(act.Gate(c.bend, c.gate, c.up))
	}
}

// 12.2, R6: as many numbers as may be.
func TestGateOfManyNumbers(t *testing.T) {
	most := filled[int8](api.MaxCells, 64)
	up := with(filled[int8](api.MaxCells, 3), api.MaxCells-1, -7)
	is(t, "Gate", up)(act.Gate(cut(t), most, up))
}

// 12.2, R2, R6
func TestGateOfWhatMayNotBe(t *testing.T) {
	many, most := filled[int8](api.MaxCells+1, 1), filled[int8](api.MaxCells, 1)
	bend := cut(t)
	for name, c := range map[string]struct {
		bend, gate, up []int8
		e              api.Errno
	}{
		"no bend":                   {nil, narrow(1), narrow(1), api.ErrBend},
		"no bend of none":           {nil, nil, nil, api.ErrBend},
		"one too few":               {bend[:255], narrow(1), narrow(1), api.ErrBend},
		"one too many":              {append(slices.Clone(bend), 0), narrow(1), narrow(1), api.ErrBend},
		"no bend, and too many":     {bend[:255], many, many, api.ErrBend},
		"no bend, and unlike":       {bend[:255], narrow(1), narrow(1, 2), api.ErrBend},
		"one gate too many":         {bend, many, most, api.ErrCells},
		"one up too many":           {bend, most, many, api.ErrCells},
		"one of both too many":      {bend, many, many, api.ErrCells},
		"too many beside none":      {bend, many, nil, api.ErrCells},
		"none beside too many":      {bend, nil, many, api.ErrCells},
		"a shorter one":             {bend, narrow(1), narrow(1, 2), api.ErrLengths},
		"a longer one":              {bend, narrow(1, 2), narrow(1), api.ErrLengths},
		"none beside one":           {bend, nil, narrow(1), api.ErrLengths},
		"one beside none":           {bend, narrow(1), nil, api.ErrLengths},
		"as many as may be, unlike": {bend, most, most[1:], api.ErrLengths},
	} {
		fails[int8](t, name, c.e)(act.Gate(c.bend, c.gate, c.up))
	}
}

// 12.3: held against numbers of any size.
func TestMiddleByTheWords(t *testing.T) {
	s := spread(2)
	for _, bend := range [][]int8{cut(t), smooth(t), square(t), s.numbers(256)} {
		for cols := 1; cols < 12; cols++ {
			for inner := 1; inner < 10; inner++ {
				b, h := s.middle(cols, inner, s.below(8)), s.numbers(cols)
				is(t, "Middle", middleOf(b, bend, h))(act.Middle(b, bend, h))
			}
		}
	}
}

// 12.3: every shift that may be.
func TestShiftsOfMiddle(t *testing.T) {
	s := spread(3)
	for shift := range 63 {
		for _, change := range []func(b *api.Middle){
			func(b *api.Middle) { b.GateS = shift },
			func(b *api.Middle) { b.UpS = shift },
			func(b *api.Middle) { b.DownS = shift },
			func(b *api.Middle) { b.GateS, b.UpS, b.DownS = shift, shift, shift },
		} {
			b, h := s.middle(5, 4, 3), s.numbers(5)
			change(&b)
			is(t, "Middle", middleOf(b, smooth(t), h))(act.Middle(b, smooth(t), h))
		}
	}
}

// 12.3, R6: matrices as great as may be, and the greatest numbers that come out.
func TestGreatMiddle(t *testing.T) {
	b := exampleMiddle()
	b.Gate, b.Up = filled[int8](api.MaxCells, -128), filled[int8](api.MaxCells, -128)
	b.GateS, b.UpS = 0, 0
	b.Down = filled[int8](api.MaxCells, -128)
	is(t, "one column", wide(-127*128*api.MaxCells))(act.Middle(b, cut(t), narrow(-128)))
	b.Down = filled[int8](3, -128)
	is(t, "one row", wide(-127*128, -127*128, -127*128))(act.Middle(b, cut(t), filled[int8](api.MaxCells, -128)))
	b.GateS, b.UpS = 34, 34
	b.Down = narrow(64)
	is(t, "one row, scaled", wide(0))(act.Middle(b, cut(t), filled[int8](api.MaxCells, -128)))
	b.GateS, b.UpS = 28, 28
	is(t, "one row, scaled less", wide(64*64))(act.Middle(b, cut(t), filled[int8](api.MaxCells, -128)))
}

// 12.3, R2: each error beside all those behind it.
func TestMiddleOfWhatMayNotBe(t *testing.T) {
	many := filled[int8](2*api.MaxCells, 1) // of two columns they would go together
	for name, c := range map[string]struct {
		change func(b *api.Middle, bend, h *[]int8)
		e      api.Errno
	}{
		"no h":                      {func(_ *api.Middle, _, h *[]int8) { *h = nil }, api.ErrLengths},
		"no gate row of h's length": {func(b *api.Middle, _, _ *[]int8) { b.Gate = narrow(1, 2, 3) }, api.ErrLengths},
		"a longer h":                {func(_ *api.Middle, _, h *[]int8) { *h = narrow(1, 2, 3) }, api.ErrLengths},
		"too great a Gate":          {func(b *api.Middle, _, _ *[]int8) { b.Gate = many }, api.ErrCells},
		"too great an Up":           {func(b *api.Middle, _, _ *[]int8) { b.Up = many }, api.ErrCells},
		"too great a Down":          {func(b *api.Middle, _, _ *[]int8) { b.Down = many }, api.ErrCells},
		"GateS below 0":             {func(b *api.Middle, _, _ *[]int8) { b.GateS = -1 }, api.ErrShift},
		"GateS too great":           {func(b *api.Middle, _, _ *[]int8) { b.GateS = 63 }, api.ErrShift},
		"UpS below 0":               {func(b *api.Middle, _, _ *[]int8) { b.UpS = -1 }, api.ErrShift},
		"UpS too great":             {func(b *api.Middle, _, _ *[]int8) { b.UpS = 63 }, api.ErrShift},
		"DownS below 0":             {func(b *api.Middle, _, _ *[]int8) { b.DownS = -1 }, api.ErrShift},
		"DownS too great":           {func(b *api.Middle, _, _ *[]int8) { b.DownS = 63 }, api.ErrShift},
		"the least DownS":           {func(b *api.Middle, _, _ *[]int8) { b.DownS = least }, api.ErrShift},
		"the greatest GateS":        {func(b *api.Middle, _, _ *[]int8) { b.GateS = greatest }, api.ErrShift},
		"no bend":                   {func(_ *api.Middle, bend, _ *[]int8) { *bend = nil }, api.ErrBend},
		"Up of more rows":           {func(b *api.Middle, _, _ *[]int8) { b.Up = narrow(1, 2, 3, 4) }, api.ErrLengths},
		"Gate of no rows":           {func(b *api.Middle, _, _ *[]int8) { b.Gate = nil }, api.ErrLengths},
		"both of no rows":           {func(b *api.Middle, _, _ *[]int8) { b.Gate, b.Up = nil, nil }, api.ErrLengths}, // Down can't have no columns
		"nothing but h":             {func(b *api.Middle, _, _ *[]int8) { *b = api.Middle{} }, api.ErrLengths},
		"Down of other columns": {func(b *api.Middle, _, _ *[]int8) {
			b.Gate, b.Up, b.Down = narrow(1, 2, 3, 4), narrow(1, 2, 3, 4), narrow(1, 2, 3)
		}, api.ErrLengths},
	} {
		b, bend, h := exampleMiddle(), cut(t), narrow(64, 7)
		c.change(&b, &bend, &h)
		fails[int64](t, name, c.e)(act.Middle(b, bend, h))
	}
}

// 12.3, R2: of several errors the first one on the way is told.
func TestOrderOfErrorsOfMiddle(t *testing.T) {
	many := filled[int8](2*api.MaxCells, 1)
	steps := []struct {
		name   string
		change func(b *api.Middle, bend *[]int8)
		e      api.Errno
	}{
		{"Gate", func(b *api.Middle, _ *[]int8) { b.Gate = narrow(1, 2, 3) }, api.ErrLengths},
		{"GateS", func(b *api.Middle, _ *[]int8) { b.GateS = 63 }, api.ErrShift},
		{"Up", func(b *api.Middle, _ *[]int8) { b.Up = many }, api.ErrCells},
		{"UpS", func(b *api.Middle, _ *[]int8) { b.UpS = -1 }, api.ErrShift},
		{"bend", func(_ *api.Middle, bend *[]int8) { *bend = nil }, api.ErrBend},
		{"Down", func(b *api.Middle, _ *[]int8) { b.Down = many }, api.ErrCells},
		{"DownS", func(b *api.Middle, _ *[]int8) { b.DownS = 63 }, api.ErrShift},
	}
	for i, first := range steps {
		for _, second := range steps[i:] {
			b, bend := exampleMiddle(), cut(t)
			second.change(&b, &bend)
			first.change(&b, &bend)
			fails[int64](t, first.name+" ahead of "+second.name, first.e)(act.Middle(b, bend, narrow(64, 7)))
		}
		b, bend := exampleMiddle(), cut(t)
		for _, step := range steps[i:] {
			step.change(&b, &bend)
		}
		fails[int64](t, first.name+" ahead of all others", first.e)(act.Middle(b, bend, narrow(64, 7)))
	}
}

// 12.3, R2: a Gate of another error than what lies behind it; unlike rows ahead of Down.
func TestMoreOrderOfErrorsOfMiddle(t *testing.T) {
	b := exampleMiddle()
	b.Gate, b.Up = filled[int8](2*api.MaxCells, 1), narrow(1, 2, 3)
	fails[int64](t, "Gate", api.ErrCells)(act.Middle(b, nil, narrow(64, 7)))
	b = exampleMiddle()
	b.Up, b.Down = narrow(1, 2, 3, 4), filled[int8](2*api.MaxCells, 1)
	fails[int64](t, "bend", api.ErrBend)(act.Middle(b, nil, narrow(64, 7)))
	fails[int64](t, "unlike", api.ErrLengths)(act.Middle(b, cut(t), narrow(64, 7)))
	b.Up, b.Down, b.DownS = nil, narrow(1), 63
	fails[int64](t, "an Up of no rows", api.ErrLengths)(act.Middle(b, cut(t), narrow(64, 7)))
	b.Gate = nil
	fails[int64](t, "no columns", api.ErrLengths)(act.Middle(b, cut(t), narrow(64, 7)))
}
