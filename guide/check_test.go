package guide_test

import (
	"math"
	"slices"
	"testing"

	"herald/api"
	"herald/guide"
)

// checks asks what Check says of a guide, and whether all calls that are handed one say the same, if it is not right.
func checks(t *testing.T, what string, g api.Guide, place int, err api.Errno) {
	t.Helper()
	if at, e := guide.Check(g); at != place || e != err {
		t.Errorf("%s: Check: %d, %d and not %d, %d", what, at, e, place, err)
	}
	if err == api.OK {
		return
	}
	v, right := vocabulary("a", "b"), of("1")
	noList(t, what+": Alive", err)(guide.Alive(g))
	noList(t, what+": Mask", err)(guide.Mask(g, v, 0))
	noList(t, what+": Mask of no state", err)(guide.Mask(g, v, 99))
	for _, state := range []int{0, 1, -1} {
		for _, text := range texts("", "a") {
			if to := guide.Walk(g, state, text); to != -1 {
				t.Errorf("%s: Walk: %d", what, to)
			}
		}
		if to := guide.Next(g, v, state, 1); to != -1 {
			t.Errorf("%s: Next: %d", what, to)
		}
	}
	if guide.State(g, v, []int{1}) != -1 || guide.State(g, v, []int{0}) != -1 {
		t.Errorf("%s: State", what)
	}
	if guide.Accepts(g, "") || guide.Accepts(g, "a") {
		t.Errorf("%s: Accepts", what)
	}
	refusesAll(t, what, g, right, err)
}

// refusesAll asks whether the calls that make something of guides tell the error of one that is not right.
func refusesAll(t *testing.T, what string, g, right api.Guide, err api.Errno) {
	t.Helper()
	noGuide(t, what+": Least", err)(guide.Least(g))
	noGuide(t, what+": Not", err)(guide.Not(g))
	for name, call := range map[string]func(a, b api.Guide) (api.Guide, api.Errno){"And": guide.And, "Or": guide.Or} {
		noGuide(t, what+": "+name, err)(call(g, right))
		noGuide(t, what+": "+name+" behind", err)(call(right, g))
		noGuide(t, what+": "+name+" of two", err)(call(g, g))
	}
	for _, both := range [][2]api.Guide{{g, right}, {right, g}, {g, g}} {
		if ok, e := guide.Equal(both[0], both[1]); ok || e != err {
			t.Errorf("%s: Equal: %v, %d", what, ok, e)
		}
	}
	if s, e := guide.Shortest(g); s != "" || e != err {
		t.Errorf("%s: Shortest: %q, %d", what, s, e)
	}
	for _, n := range []int{0, 1, -1, 1025} {
		if count, ok, e := guide.Count(g, n); count != 0 || ok || e != err {
			t.Errorf("%s: Count: %d, %v, %d", what, count, ok, e)
		}
	}
}

// many is n states that all accept, and edges edges by one byte each.
func many(n, edges int) api.Guide {
	g := api.Guide{Accept: make([]bool, n)}
	for i := range g.Accept {
		g.Accept[i] = true
	}
	for i := range edges {
		g.Edges = append(g.Edges, edge(i/256, byte(i), byte(i), i%n))
	}
	return g
}

// 15.1
func TestCheck(t *testing.T) {
	ab, ba := edge(0, 'a', 'b', 1), edge(1, 'a', 'b', 0)
	for what, c := range map[string]struct {
		g     api.Guide
		place int
		e     api.Errno
	}{
		"no states":                  {of(""), 0, api.OK},
		"one state":                  {of("1"), 0, api.OK},
		"two":                        {of("01", ab, ba), 0, api.OK},
		"all bytes":                  {of("1", edge(0, 0, 255, 0)), 0, api.OK},
		"From below 0":               {of("11", ab, edge(-1, 'a', 'a', 0)), 1, api.ErrEdge},
		"From too great":             {of("11", ab, edge(2, 'a', 'a', 0)), 1, api.ErrEdge},
		"To below 0":                 {of("11", ab, ba, edge(1, 'c', 'c', -1)), 2, api.ErrEdge},
		"To too great":               {of("11", edge(1, 'c', 'c', 2)), 0, api.ErrEdge},
		"the least numbers":          {of("11", edge(math.MinInt, 0, 0, math.MinInt)), 0, api.ErrEdge},
		"the greatest To":            {of("11", edge(0, 0, 0, math.MaxInt)), 0, api.ErrEdge},
		"Low above High":             {of("11", ab, edge(1, 'b', 'a', 0)), 1, api.ErrEdge},
		"Low far above High":         {of("11", edge(1, 255, 0, 0)), 0, api.ErrEdge},
		"Low is High":                {of("11", edge(1, 255, 255, 0), edge(1, 0, 0, 0)), 0, api.OK},
		"the same edge again":        {of("11", ab, ab), 1, api.ErrEdge},
		"one byte shared, behind":    {of("11", ab, ba, edge(0, 'b', 'z', 1)), 2, api.ErrEdge},
		"one byte shared, ahead":     {of("11", ab, edge(0, 0, 'a', 1)), 1, api.ErrEdge},
		"a byte within":              {of("11", edge(0, 0, 255, 0), edge(0, 'x', 'x', 0)), 1, api.ErrEdge},
		"a byte around":              {of("11", edge(0, 'x', 'x', 0), edge(0, 0, 255, 0)), 1, api.ErrEdge},
		"side by side":               {of("11", ab, edge(0, 'c', 'z', 1), edge(0, 0, '`', 1)), 0, api.OK},
		"shared with the first one":  {of("11", ab, edge(0, 'c', 'c', 0), ba, edge(0, 'a', 'a', 0)), 3, api.ErrEdge},
		"two faults":                 {of("11", ab, edge(0, 'b', 'b', 1), edge(5, 'a', 'a', 1)), 1, api.ErrEdge},
		"two faults, the other way":  {of("11", ab, edge(5, 'b', 'b', 1), edge(0, 'a', 'a', 1)), 1, api.ErrEdge},
		"nothing accepts":            {of("0"), 0, api.ErrDead},
		"nothing accepts, of two":    {of("00", ab, ba), 0, api.ErrDead},
		"what accepts isn't reached": {of("001", ab, ba, edge(2, 'a', 'a', 0)), 0, api.ErrDead},
		"reached far off":            {of("0001", edge(2, 'a', 'a', 3), edge(1, 'a', 'a', 2), edge(0, 'a', 'a', 1)), 0, api.OK},
		"dead, with an edge wrong":   {of("00", ab, edge(0, 'a', 'a', 0)), 1, api.ErrEdge},
		"edges without states":       {of("", ab), 0, api.ErrEdge},
		"a wrong one without states": {of("", edge(-1, 9, 1, -1)), 0, api.ErrEdge},
	} {
		checks(t, what, c.g, c.place, c.e)
	}
}

// 15.1, R6
func TestCheckAtTheLimits(t *testing.T) {
	for what, c := range map[string]struct {
		g     api.Guide
		place int
		e     api.Errno
	}{
		"as many states as may be":   {many(64, 0), 0, api.OK},
		"one state too many":         {many(65, 0), 64, api.ErrStates},
		"many states too many":       {many(5000, 0), 64, api.ErrStates},
		"as many edges as may be":    {many(64, 1024), 0, api.OK},
		"one edge too many":          {many(64, 1025), 1024, api.ErrEdge},
		"too many of both":           {many(65, 1025), 64, api.ErrStates},
		"dead, with too many states": {api.Guide{Accept: make([]bool, 65)}, 64, api.ErrStates},
		"too many, the first wrong":  {many(1, 1025), 1024, api.ErrEdge},
		"too many, without states":   {api.Guide{Edges: make([]api.Edge, 1025)}, 1024, api.ErrEdge},
		"as many, without states":    {api.Guide{Edges: make([]api.Edge, 1024)}, 0, api.ErrEdge},
		"as many, the last wrong":    {api.Guide{Accept: make([]bool, 64), Edges: append(many(64, 1023).Edges, edge(64, 0, 0, 0))}, 1023, api.ErrEdge},
	} {
		checks(t, what, c.g, c.place, c.e)
	}
}

// 15.1, 15.2: by the words.
func TestCheckByTheWords(t *testing.T) {
	s := spread(1)
	met := map[api.Errno]int{}
	for range 20000 {
		var g api.Guide
		for range s.below(5) {
			g.Accept = append(g.Accept, s.below(3) == 0)
		}
		for range s.below(7) {
			low := byte('a' + s.below(8))
			g.Edges = append(g.Edges, edge(s.below(10)%5-s.below(9)/8, low, low+byte(s.below(3))-byte(s.below(8)/7), s.below(10)%5-s.below(9)/8))
		}
		place, e := plainCheck(g)
		met[e]++
		if at, err := guide.Check(g); at != place || err != e {
			t.Errorf("Check(%v): %d, %d and not %d, %d", g, at, err, place, e)
		}
		if e != api.OK {
			noList(t, "Alive", e)(guide.Alive(g))
			continue
		}
		var alive []bool
		for state := range g.Accept {
			alive = append(alive, plainAlive(g, state))
		}
		isList(t, "Alive", alive...)(guide.Alive(g))
	}
	for _, e := range []api.Errno{api.OK, api.ErrEdge, api.ErrDead} {
		if met[e] < 1000 {
			t.Error(met)
		}
	}
}

// 15.2
func TestAlive(t *testing.T) {
	isList(t, "no states")(guide.Alive(of("")))
	isList(t, "one", true)(guide.Alive(of("1")))
	isList(t, "one that isn't reached", true, true)(guide.Alive(of("11")))
	isList(t, "back", true, true, true, false)(guide.Alive(of("0010", edge(1, 'a', 'a', 2), edge(0, 'a', 'a', 1), edge(2, 'a', 'a', 3))))
	isList(t, "a circle that leads nowhere", true, false, false)(guide.Alive(of("100", edge(0, 'a', 'a', 1), edge(1, 'a', 'a', 2), edge(2, 'a', 'a', 1))))
	long := many(64, 0)
	for state := range 63 {
		long.Accept[state] = false
		long.Edges = append(long.Edges, edge(state, 0, 255, state+1))
	}
	all := slices.Repeat([]bool{true}, 64)
	isList(t, "a long way", all...)(guide.Alive(long))
	long.Edges = long.Edges[1:]
	noList(t, "a way that is cut off", api.ErrDead)(guide.Alive(long))
}

// 15.9: of two guides that are not right, the error of the first one.
func TestTheFirstErrorCounts(t *testing.T) {
	a, b := of("0"), of("1", edge(1, 0, 0, 0))
	for name, call := range map[string]func(a, b api.Guide) (api.Guide, api.Errno){"And": guide.And, "Or": guide.Or} {
		noGuide(t, name, api.ErrDead)(call(a, b))
		noGuide(t, name, api.ErrEdge)(call(b, a))
	}
	if ok, e := guide.Equal(a, b); ok || e != api.ErrDead {
		t.Error(ok, e)
	}
	if ok, e := guide.Equal(b, a); ok || e != api.ErrEdge {
		t.Error(ok, e)
	}
}
