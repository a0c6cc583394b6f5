package act_test

import (
	"slices"
	"testing"

	"herald/act"
	"herald/api"
)

// 12.4
func TestGateThatIsShut(t *testing.T) {
	s := spread(6)
	for _, bend := range [][]int8{cut(t), smooth(t), square(t), s.numbers(256)} {
		var shut []int8
		for _, x := range every() {
			if bendOf(bend, x) == 0 {
				shut = append(shut, x)
			}
		}
		if len(shut) == 0 {
			t.Fatal("nothing is shut")
		}
		for n := range 50 {
			gate := make([]int8, n)
			for i := range gate {
				gate[i] = shut[s.below(len(shut))]
			}
			is(t, "Gate", make([]int8, n))(act.Gate(bend, gate, s.numbers(n)))
		}
	}
}

// 12.4
func TestBendsRise(t *testing.T) {
	for name, bend := range map[string][]int8{"cut": cut(t), "square": square(t)} {
		var bent []int8
		for _, x := range every() {
			bent = append(bent, bendOf(bend, x))
		}
		if !slices.IsSorted(bent) || bent[0] < 0 {
			t.Error(name, bent)
		}
	}
}

// 12.4
func TestSoftOfBothSides(t *testing.T) {
	bend := smooth(t)
	for _, x := range every()[1:] {
		if far := int(bendOf(bend, x)) - int(bendOf(bend, -x)); far != int(x) {
			t.Error(x, far)
		}
	}
}

// 12.4
func TestDownOfNoRows(t *testing.T) {
	s := spread(7)
	for n := 1; n < 20; n++ {
		is(t, "Middle", wide())(act.Middle(s.middle(n, 1+s.below(9), 0), smooth(t), s.numbers(n)))
	}
}

// 12.4: what was asked ahead, and what other rows there are, does not matter.
func TestMiddleHangsOnItsRowAlone(t *testing.T) {
	s := spread(8)
	b, bend := s.middle(6, 5, 4), smooth(t)
	rows, alone := make([][]int8, 30), make([][]int64, 30)
	for i := range rows {
		rows[i] = s.numbers(6)
		alone[i] = okay[[]int64](t, "Middle")(act.Middle(b, bend, rows[i]))
	}
	for i := len(rows) - 1; i >= 0; i-- {
		act.Middle(s.middle(6, 2, 2), cut(t), rows[s.below(30)])
		is(t, "Middle", alone[i])(act.Middle(b, bend, rows[i]))
	}
}

// 12.6
func TestWeightsOfTheChosen(t *testing.T) {
	s := spread(9)
	for experts := 1; experts < 60; experts++ {
		router, h := s.numbers(experts*4), s.numbers(4)
		for k := 1; k <= experts; k++ {
			_, w, e := act.Choose(router, h, s.below(9), k)
			var sum int64
			for _, x := range w {
				sum += x
			}
			slices.Reverse(w)
			if len(w) != k || sum != whole || !slices.IsSorted(w) || w[0] < 0 || e != api.OK {
				t.Fatal("Choose", experts, k, w, sum, e)
			}
		}
	}
}

// 12.6: one alone.
func TestExpertsOfOne(t *testing.T) {
	s := spread(10)
	for experts := 1; experts < 9; experts++ {
		router, h, l := s.numbers(experts*5), s.numbers(5), make([]api.Middle, experts)
		for i := range l {
			l[i] = s.middle(5, 1+s.below(6), s.below(6))
		}
		places, _, _ := act.Choose(router, h, 3, 1)
		want := okay[[]int64](t, "Middle")(act.Middle(l[places[0]], smooth(t), h))
		is(t, "Experts", want)(act.Experts(router, 3, 1, l, smooth(t), h))
	}
}

// 12.6: several that are the same.
func TestExpertsThatAreTheSame(t *testing.T) {
	s := spread(11)
	for experts := 1; experts < 9; experts++ {
		router, h, b := s.numbers(experts*5), s.numbers(5), s.middle(5, 4, 6)
		want := okay[[]int64](t, "Middle")(act.Middle(b, smooth(t), h))
		for k := 1; k <= experts; k++ {
			is(t, "Experts", want)(act.Experts(router, s.below(9), k, filled(experts, b), smooth(t), h))
		}
	}
}

// 12.6: whatever stands in the others' place.
func TestExpertsThatAreNotChosen(t *testing.T) {
	s := spread(12)
	others := []api.Middle{{}, {Gate: narrow(1, 2)}, {Gate: filled[int8](5*api.MaxCells, 1)}, says(5, 9), {GateS: -1}, s.middle(5, 2, 4)}
	for experts := 1; experts < 8; experts++ {
		router, h, l := s.numbers(experts*5), s.numbers(5), make([]api.Middle, experts)
		for i := range l {
			l[i] = s.middle(5, 3, 4)
		}
		for k := 1; k <= experts; k++ {
			places, _, _ := act.Choose(router, h, 2, k)
			want := okay[[]int64](t, "Experts")(act.Experts(router, 2, k, l, smooth(t), h))
			for _, other := range others {
				changed := slices.Clone(l)
				for i := range changed {
					if !slices.Contains(places, i) {
						changed[i] = other
					}
				}
				is(t, "Experts", want)(act.Experts(router, 2, k, changed, smooth(t), h))
			}
		}
	}
}
