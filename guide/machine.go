package guide

import (
	"slices"

	"herald/api"
)

// nowhere is where a text leads for which there is no edge.
const nowhere = -1

// machine is an automaton with every step written out, so that a step is one look.
type machine struct {
	accept []bool
	steps  [][256]int16 // of each state, by each byte, the state to which it leads, or nowhere
}

// machineOf is a guide as a machine, or what Check says of a guide that is not right. A guide without states, which binds nothing, is the one state that all texts come back to.
func machineOf(g api.Guide) (*machine, int, api.Errno) {
	if len(g.Accept) > api.MaxStates {
		return nil, api.MaxStates, api.ErrStates
	}
	if len(g.Edges) > api.MaxEdges {
		return nil, api.MaxEdges, api.ErrEdge
	}
	m := &machine{}
	for _, accepts := range g.Accept {
		m.add(accepts)
	}
	for place, e := range g.Edges {
		if !m.lay(e) {
			return nil, place, api.ErrEdge
		}
	}
	if len(g.Accept) == 0 {
		m.add(true)
		m.lay(api.Edge{From: 0, Low: 0, High: 255, To: 0})
	}
	if !m.alive()[0] {
		return nil, 0, api.ErrDead
	}
	return m, 0, api.OK
}

// add is the number of a new state, from which nothing leads anywhere yet.
func (m *machine) add(accepts bool) int {
	var row [256]int16
	for b := range row {
		row[b] = nowhere
	}
	m.accept = append(m.accept, accepts)
	m.steps = append(m.steps, row)
	return len(m.steps) - 1
}

// lay adds an edge; false, if it is not right, or shares a byte with one that was laid.
func (m *machine) lay(e api.Edge) bool {
	if !m.has(e.From) || !m.has(e.To) || e.Low > e.High {
		return false
	}
	row := m.steps[e.From][e.Low : int(e.High)+1]
	for i := range row {
		if row[i] != nowhere {
			return false
		}
		row[i] = int16(e.To)
	}
	return true
}

// has tells whether a number is a state's.
func (m *machine) has(state int) bool { return state >= 0 && state < len(m.steps) }

// accepts tells whether a state does; nowhere does not.
func (m *machine) accepts(state int) bool { return state != nowhere && m.accept[state] }

// step is where a byte leads; from nowhere it leads nowhere.
func (m *machine) step(state int, b byte) int {
	if state == nowhere {
		return nowhere
	}
	return int(m.steps[state][b])
}

// walk is where a text leads.
func (m *machine) walk(state int, text string) int {
	for i := 0; i < len(text) && state != nowhere; i++ {
		state = m.step(state, text[i])
	}
	return state
}

// alive tells of each state whether an accepting one can be reached, by going back from those that accept.
func (m *machine) alive() []bool {
	sources := m.sources()
	alive := slices.Clone(m.accept)
	var queue []int
	for state, accepts := range m.accept {
		if accepts {
			queue = append(queue, state)
		}
	}
	for len(queue) > 0 {
		state := queue[0]
		queue = queue[1:]
		for _, from := range sources[state] {
			if !alive[from] {
				alive[from] = true
				queue = append(queue, from)
			}
		}
	}
	return alive
}

// sources is of each state those from which a byte leads to it, each one once.
func (m *machine) sources() [][]int {
	sources := make([][]int, len(m.steps))
	for from := range m.steps {
		for _, to := range m.steps[from] {
			if to == nowhere {
				continue
			}
			if l := sources[to]; len(l) == 0 || l[len(l)-1] != from {
				sources[to] = append(l, from)
			}
		}
	}
	return sources
}

// explore is the machine of all things to which bytes lead from start on. Where a byte leads from a thing tells what steps answers of it: false, if nowhere. It gives up, where there are more than most things.
func explore[T comparable](start T, most int, accepts func(T) bool, steps func(T) func(b byte) (T, bool)) (*machine, bool) {
	m := &machine{}
	states := map[T]int{start: m.add(accepts(start))}
	things := []T{start}
	for from := 0; from < len(things); from++ {
		step := steps(things[from])
		for b := range 256 {
			thing, ok := step(byte(b))
			if !ok {
				continue
			}
			to, known := states[thing]
			if !known {
				if len(things) == most {
					return nil, false
				}
				to = m.add(accepts(thing))
				states[thing] = to
				things = append(things, thing)
			}
			m.steps[from][b] = int16(to)
		}
	}
	return m, true
}
