package guide

import (
	"slices"

	"herald/api"
)

// mostPairs is how many pairs there are of a state, or nowhere, of one guide and of another one.
const mostPairs = (api.MaxStates + 1) * (api.MaxStates + 1)

// Least is the least guide of the same texts.
func Least(g api.Guide) (api.Guide, api.Errno) {
	return leastOf(g, g, func(is, _ bool) bool { return is })
}

// And is the least guide of the texts of both.
func And(a, b api.Guide) (api.Guide, api.Errno) {
	return leastOf(a, b, func(inA, inB bool) bool { return inA && inB })
}

// Or is the least guide of the texts of either.
func Or(a, b api.Guide) (api.Guide, api.Errno) {
	return leastOf(a, b, func(inA, inB bool) bool { return inA || inB })
}

// Not is the least guide of all other texts.
func Not(g api.Guide) (api.Guide, api.Errno) {
	return leastOf(g, g, func(is, _ bool) bool { return !is })
}

// Equal tells whether two guides accept the same texts.
func Equal(a, b api.Guide) (bool, api.Errno) {
	unlike, e := join(a, b, func(inA, inB bool) bool { return inA != inB })
	if e != api.OK {
		return false, e
	}
	return !slices.Contains(unlike.accept, true), api.OK
}

// leastOf is the least guide of the texts that are chosen by whether a and b accept them.
func leastOf(a, b api.Guide, chosen func(inA, inB bool) bool) (api.Guide, api.Errno) {
	m, e := join(a, b, chosen)
	if e != api.OK {
		return api.Guide{}, e
	}
	return m.least()
}

// join is a machine that goes through two guides at one time, and accepts what is chosen by what both say.
func join(a, b api.Guide, chosen func(inA, inB bool) bool) (*machine, api.Errno) {
	first, _, e := machineOf(a)
	if e != api.OK {
		return nil, e
	}
	second, _, e := machineOf(b)
	if e != api.OK {
		return nil, e
	}
	type pair struct{ first, second int }
	accepts := func(p pair) bool {
		return chosen(first.accepts(p.first), second.accepts(p.second))
	}
	// A text that leads nowhere in both leads to a pair, too: it may be chosen.
	steps := func(p pair) func(b byte) (pair, bool) {
		return func(b byte) (pair, bool) {
			return pair{first.step(p.first, b), second.step(p.second, b)}, true
		}
	}
	m, _ := explore(pair{0, 0}, mostPairs, accepts, steps)
	return m, api.OK
}

// least is the least guide of what a machine accepts of which each state can be reached.
func (m *machine) least() (api.Guide, api.Errno) {
	alive := m.alive()
	if !alive[0] {
		return api.Guide{}, api.ErrDead
	}
	classes, ok := m.classes(alive)
	if !ok {
		return api.Guide{}, api.ErrStates
	}
	g := m.guideOf(classes)
	if len(g.Edges) > api.MaxEdges {
		return api.Guide{}, api.ErrEdge
	}
	return g, api.OK
}

// dead is the class of the states from which nothing can be accepted any more.
const dead = 0

// classes parts the states, so that those from which the same texts are accepted, and no others, are of one class; false, if the living ones are of more than MaxStates classes.
func (m *machine) classes(alive []bool) ([]uint8, bool) {
	classes := make([]uint8, len(m.steps))
	for state := range classes {
		if m.accept[state] {
			classes[state] = 2
		} else if alive[state] {
			classes[state] = 1
		}
	}
	// Each round parts states by one byte more; when one parts none, no later one would.
	for count := 0; ; {
		finer, now := m.part(classes)
		if now > api.MaxStates {
			return nil, false
		}
		if now == count {
			return finer, true
		}
		classes, count = finer, now
	}
}

// look is a state as one step shows it: its class, and that of the state to which each byte leads.
type look [257]uint8

// part parts classes by looks. It tells how many living classes there are; where they are too many already it goes no further.
func (m *machine) part(classes []uint8) ([]uint8, int) {
	finer := make([]uint8, len(classes))
	numbers := map[look]int{{}: dead} // from a dead state all leads to dead ones
	for state := range classes {
		l := m.look(state, classes)
		number, ok := numbers[l]
		if !ok {
			number = len(numbers)
			numbers[l] = number
		}
		if number > api.MaxStates {
			return nil, number
		}
		finer[state] = uint8(number)
	}
	return finer, len(numbers) - 1
}

func (m *machine) look(state int, classes []uint8) look {
	l := look{classes[state]}
	for b, to := range m.steps[state] {
		if to != nowhere {
			l[1+b] = classes[to]
		}
	}
	return l
}

// guideOf is the guide of a state for each living class, numbered as they are met from the class of state 0 on.
func (m *machine) guideOf(classes []uint8) api.Guide {
	var g api.Guide
	numbers := map[uint8]int{classes[0]: 0}
	states := []int{0} // of each class that was met one
	for from := 0; from < len(states); from++ {
		g.Accept = append(g.Accept, m.accept[states[from]])
		for b, to := range m.steps[states[from]] {
			if to == nowhere || classes[to] == dead {
				continue
			}
			number, met := numbers[classes[to]]
			if !met {
				number = len(states)
				numbers[classes[to]] = number
				states = append(states, int(to))
			}
			g.Edges = widen(g.Edges, from, byte(b), number)
		}
	}
	return g
}

// widen adds a byte to edges, to the last one, if that leads by the byte ahead from and to the same states.
func widen(edges []api.Edge, from int, b byte, to int) []api.Edge {
	if len(edges) > 0 {
		last := &edges[len(edges)-1]
		if last.From == from && last.To == to && int(last.High)+1 == int(b) {
			last.High = b
			return edges
		}
	}
	return append(edges, api.Edge{From: from, Low: b, High: b, To: to})
}
