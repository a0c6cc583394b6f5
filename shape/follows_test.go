package shape_test

import (
	"slices"
	"testing"

	"herald/api"
	"herald/shape"
)

// 16.5: samples are valid, and the same each time.
func TestSamplesAreValid(t *testing.T) {
	for _, s := range shapes() {
		for _, seed := range seeds() {
			m := sampled(t, s, seed)
			valid(t, "a sample", m, api.Where{}, api.OK)
			same(t, "a sample", m, sampled(t, s, seed), true)
		}
	}
	for _, seed := range seeds()[1:] {
		same(t, "another seed", sampled(t, two(), 0), sampled(t, two(), seed), false)
	}
}

// wild is a model of any numbers and shifts whose parts fit.
func wild(t *testing.T, s *spread, sh api.Shape) api.Model {
	m := sampled(t, sh, s.below(1000))
	for _, l := range rows(&m) {
		*l = s.numbers(len(*l))
	}
	for _, shift := range shifts(&m) {
		*shift = s.below(12)
	}
	m.EmbedShift = s.below(24)
	return m
}

// rise asks whether reaches never fall.
func rise(t *testing.T, l []int64) {
	t.Helper()
	if !slices.IsSorted(l) || l[0] < 0 {
		t.Error("reaches fall", l)
	}
}

// 16.5: reaches never fall, nor are they greater where a shift is.
func TestReachesRise(t *testing.T) {
	s := spread(17)
	for range 200 {
		m := wild(t, &s, two())
		l, _ := shape.Reaches(m)
		rise(t, l)
		for i := range m.Blocks {
			for _, shift := range []*int{&m.Blocks[i].OS, &m.Blocks[i].Middle.DownS} {
				was := l
				for *shift < 31 {
					*shift++
					now, e := shape.Reaches(m)
					rise(t, now)
					for j := range now {
						if now[j] > was[j] || e != api.OK {
							t.Error("reaches", now, was, e)
						}
					}
					was = now
				}
				*shift = s.below(12)
				l, _ = shape.Reaches(m)
			}
		}
	}
}

// 16.5: what is valid stays so if a number of O or Down is brought nearer to 0.
func TestNearerTo0(t *testing.T) {
	s, seen := spread(18), map[api.Errno]int{}
	for range 300 {
		m := wild(t, &s, of(3, 2, 2, 1, 1, 256))
		m.Embed, m.EmbedShift = filled(len(m.Embed), 127), 21 // so near the limit that it hangs on Down whether it is met
		m.Blocks[0].Middle.DownS = 0
		_, was := shape.Valid(m)
		seen[was]++
		for _, l := range [][]int8{m.Blocks[0].O, m.Blocks[0].Middle.Down} {
			l[s.below(len(l))] /= 2
		}
		if _, e := shape.Valid(m); was == api.OK && e != api.OK {
			t.Error("not valid any more", e)
		}
	}
	if seen[api.OK] < 50 || seen[api.ErrTooFar] < 50 {
		t.Error("not so near the limit", seen)
	}
	m := steep(t)
	m.Embed[len(m.Embed)-1] = 127
	l := m.Blocks[1].O
	l[0] = -128
	for l[0] < 0 {
		valid(t, "brought nearer", m, api.Where{}, api.OK)
		l[0]++
	}
}

// 16.7: a cut is valid, a cut of it is one of the model; by all layers it is the model.
func TestCutOfCut(t *testing.T) {
	for _, s := range shapes() {
		m := sampled(t, s, 19)
		for layers := 1; layers <= s.Layers; layers++ {
			x, _ := shape.Cut(m, layers)
			valid(t, "a cut", x, api.Where{}, api.OK)
			same(t, "a cut", x, m, layers == s.Layers)
			if !shape.Fitting(x, m.Vocab) {
				t.Error("a cut does not fit")
			}
			for fewer := 1; fewer <= layers; fewer++ {
				y, e := shape.Cut(x, fewer)
				z, _ := shape.Cut(m, fewer)
				same(t, "a cut of a cut", y, z, true)
				if e != api.OK {
					t.Error("Cut", e)
				}
			}
			noModel(t, "more than there are", api.ErrShape)(shape.Cut(x, layers+1))
		}
	}
}

// 16.7: more places never cost less; and a cut never costs more.
func TestMorePlaces(t *testing.T) {
	for _, s := range shapes() {
		was, _ := shape.Costs(s, 0)
		for places := 1; places <= s.Context; places++ {
			now, e := shape.Costs(s, places)
			if now.Numbers < was.Numbers || now.PairBytes < was.PairBytes || now.Pass < was.Pass || now.Score < was.Score || e != api.OK {
				t.Error("Costs", s, places, now, was, e)
			}
			was = now
		}
	}
}
