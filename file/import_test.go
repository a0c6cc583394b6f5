package file_test

import (
	"fmt"
	"math"
	"slices"
	"strings"
	"testing"

	"herald/api"
	"herald/file"
	"herald/shape"
	"herald/single"
)

// bits is the bits of a single.
func bits(x float64) uint32 { return math.Float32bits(float32(x)) }

// ofScale is a single that alone has that scale: 64 there.
func ofScale(z int) uint32 { return single.Near(64, -z) }

// plain is singles of a shape that go in: every list is of the scale 4, and every gain is 1.
func plain(s api.Shape) api.Singles {
	words, square, inner := filled(s.Vocab*s.Dim, ofScale(4)), filled(s.Dim*s.Dim, ofScale(4)), filled(s.Hidden*s.Dim, ofScale(4))
	gain := filled(s.Dim, bits(1))
	x := api.Singles{Embed: words, Gain: gain, Unembed: words}
	for range s.Layers {
		x.Blocks = append(x.Blocks, api.SinglesBlock{Gain1: gain, Q: square, K: square, V: square, O: square, Gain2: gain, Gate: inner, Up: inner, Down: inner, ScoreS: 3})
	}
	return copyOfSingles(x)
}

// copyOfSingles is singles that share nothing with x.
func copyOfSingles(x api.Singles) api.Singles {
	x.Blocks = slices.Clone(x.Blocks)
	for _, l := range numbersOf(&x) {
		*l = slices.Clone(*l)
	}
	return x
}

// sameSingles tells whether singles are the same in all.
func sameSingles(a, b api.Singles) bool {
	alike := func(x, y *[]uint32) bool { return slices.Equal(*x, *y) }
	return slices.EqualFunc(numbersOf(&a), numbersOf(&b), alike) && slices.EqualFunc(a.Blocks, b.Blocks, func(x, y api.SinglesBlock) bool { return x.ScoreS == y.ScoreS })
}

// vocabOf is the vocabulary of a sample.
func vocabOf(t *testing.T, s api.Shape) api.Vocab { return sampled(t, s, 0).Vocab }

// imports asks whether Import answers what the chapter's words say of singles that go into the shape and are finite, and tells the error.
func imports(t *testing.T, what string, s api.Shape, v api.Vocab, x api.Singles) api.Errno {
	t.Helper()
	want, err := imported(s, v, x)
	m, e := file.Import(s, v, x)
	if e != err || !isSame(m, want) {
		t.Errorf("%s: Import: %d and not %d", what, e, err)
	}
	return err
}

// importsTo is imports, where the error is known.
func importsTo(t *testing.T, what string, s api.Shape, x api.Singles, want api.Errno) {
	t.Helper()
	if e := imports(t, what, s, vocabOf(t, s), x); e != want {
		t.Errorf("%s: %d and not %d by the words themselves", what, e, want)
	}
}

// 17.4
func TestImport(t *testing.T) {
	s := two()
	m, e := file.Import(s, vocabOf(t, s), plain(s))
	if e != api.OK {
		t.Fatal("Import", e)
	}
	if m.EmbedShift != 4 || m.LogitS != 2 || m.Embed[0] != 64 || m.Gain[0] != 64 || m.Unembed[0] != 64 {
		t.Error("Import", m)
	}
	sample := sampled(t, s, 0)
	if !slices.Equal(m.Cos, sample.Cos) || !slices.Equal(m.Sin, sample.Sin) || !slices.Equal(m.Bend, sample.Bend) {
		t.Error("tables", m.Cos, m.Sin, m.Bend)
	}
	for _, b := range m.Blocks {
		if b.QS != 4 || b.KS != 4 || b.VS != 4 || b.OS != 2 || b.ScoreS != 3 || b.Middle.GateS != 4 || b.Middle.UpS != 4 || b.Middle.DownS != 2 {
			t.Error("shifts", b)
		}
	}
	for _, sh := range shapes() {
		importsTo(t, fmt.Sprint("plain ", sh), sh, plain(sh), api.OK)
	}
}

// 17.4: each list has a scale of its own, and goes to its own place.
func TestImportOfListsByThemselves(t *testing.T) {
	s, sh, taken := spread(9), two(), 0
	for range 300 {
		x := plain(sh)
		for i, l := range numbersOf(&x) {
			for j := range *l {
				(*l)[j] = bits(float64(s.below(2001)-1000) / 500 * math.Pow(2, float64(-s.below(6))))
				if isGain := i == 1 || i > 2 && (i-3)%9 < 2; !isGain {
					(*l)[j] = single.Mul((*l)[j], single.Near(1, -2-i%15))
				}
			}
		}
		for i := range x.Blocks {
			x.Blocks[i].ScoreS = s.below(32)
		}
		if imports(t, "any", sh, vocabOf(t, sh), x) == api.OK {
			taken++
		}
	}
	if taken < 200 {
		t.Error("taken", taken)
	}
}

// place is where a list and its shift stand: shift tells the scale by it, which may be from least to most.
type place struct {
	name        string
	list        func(x *api.Singles) *[]uint32
	shift       func(m *api.Model) int
	least, most int
}

// places is all of them, of two blocks.
func places() []place {
	l := []place{
		{"Embed", func(x *api.Singles) *[]uint32 { return &x.Embed }, func(m *api.Model) int { return 8 - m.EmbedShift }, -16, 8},
		{"Unembed", func(x *api.Singles) *[]uint32 { return &x.Unembed }, func(m *api.Model) int { return m.LogitS + 2 }, 2, 33},
	}
	for i := range 2 {
		add := func(name string, list func(b *api.SinglesBlock) *[]uint32, shift func(b api.Block) int, less int) {
			l = append(l, place{name, func(x *api.Singles) *[]uint32 { return list(&x.Blocks[i]) }, func(m *api.Model) int { return shift(m.Blocks[i]) + less }, less, 31 + less})
		}
		add("Q", func(b *api.SinglesBlock) *[]uint32 { return &b.Q }, func(b api.Block) int { return b.QS }, 0)
		add("K", func(b *api.SinglesBlock) *[]uint32 { return &b.K }, func(b api.Block) int { return b.KS }, 0)
		add("V", func(b *api.SinglesBlock) *[]uint32 { return &b.V }, func(b api.Block) int { return b.VS }, 0)
		add("O", func(b *api.SinglesBlock) *[]uint32 { return &b.O }, func(b api.Block) int { return b.OS }, 2)
		add("Gate", func(b *api.SinglesBlock) *[]uint32 { return &b.Gate }, func(b api.Block) int { return b.Middle.GateS }, 0)
		add("Up", func(b *api.SinglesBlock) *[]uint32 { return &b.Up }, func(b api.Block) int { return b.Middle.UpS }, 0)
		add("Down", func(b *api.SinglesBlock) *[]uint32 { return &b.Down }, func(b api.Block) int { return b.Middle.DownS }, 2)
	}
	return l
}

// 17.4: of each list every scale that lets its shift be, and those one past.
func TestImportOfScales(t *testing.T) {
	s := two()
	for _, p := range places() {
		for z := p.least - 3; z <= p.most+3; z++ {
			x := plain(s)
			l := p.list(&x)
			clear(*l)
			(*l)[len(*l)-1] = ofScale(z)
			what, want := fmt.Sprint(p.name, " at ", z), api.OK
			switch {
			case z < p.least || z > p.most:
				want = api.ErrScales
			case p.name == "Embed" && z < -13:
				want = api.ErrTooFar // 64 times 2^22, and what O adds
			}
			importsTo(t, what, s, x, want)
			if m, e := file.Import(s, vocabOf(t, s), x); e == api.OK && p.shift(&m) != z {
				t.Error(what, p.shift(&m))
			}
		}
		x := plain(s)
		clear(*p.list(&x))
		want := api.OK
		if p.least == 2 {
			want = api.ErrScales // the scale of noughts is 0, and 2 less is no shift
		}
		importsTo(t, p.name+" of noughts", s, x, want)
		*p.list(&x) = filled(len(*p.list(&x)), uint32(1<<31))
		importsTo(t, p.name+" of noughts below 0", s, x, want)
		for _, far := range []uint32{single.Near(1, 127), single.Near(-1, 127), single.Near(1, 71), single.Near(1, -149), single.Near(-1, -126), 1<<31 | 1} {
			x := plain(s)
			(*p.list(&x))[1] = far
			if l := *p.list(&x); single.Parts(far).Exp < 0 {
				clear(l)
				l[1] = far
			}
			importsTo(t, fmt.Sprint(p.name, " with ", far), s, x, api.ErrScales)
		}
	}
}

// 17.4: a reach that is just not too great, where Embed's shift is as great as may be.
func TestImportOfReaches(t *testing.T) {
	s := of(2, 1, 2, 1, 1, 1)
	x := plain(s)
	for _, l := range []*[]uint32{&x.Blocks[0].O, &x.Blocks[0].Down} {
		clear(*l)
		(*l)[0] = ofScale(33)
	}
	x.Embed = filled(4, single.Near(127, 13))
	importsTo(t, "127 at 21", s, x, api.OK)
	x.Embed = filled(4, single.Near(127, 14))
	importsTo(t, "127 at 22", s, x, api.ErrTooFar)
	x.Embed = filled(4, single.Near(64, 14))
	importsTo(t, "64 at 22", s, x, api.OK)
	x.Blocks[0].O[0] = ofScale(2)
	importsTo(t, "64 at 22, and what O adds", s, x, api.ErrTooFar)
	x.Embed = filled(4, single.Near(64, 16))
	importsTo(t, "64 at 24", s, x, api.ErrTooFar)
	x.Embed = filled(4, single.Near(64, 17))
	importsTo(t, "64 at 25", s, x, api.ErrScales)
}

// 17.4: gains stand at the scale 6, however small they are.
func TestImportOfGains(t *testing.T) {
	s := two()
	gains := func(x *api.Singles) []*[]uint32 {
		return []*[]uint32{&x.Gain, &x.Blocks[0].Gain1, &x.Blocks[0].Gain2, &x.Blocks[1].Gain1, &x.Blocks[1].Gain2}
	}
	of := func(m *api.Model) [][]int8 {
		return [][]int8{m.Gain, m.Blocks[0].Gain1, m.Blocks[0].Gain2, m.Blocks[1].Gain1, m.Blocks[1].Gain2}
	}
	for i := range 5 {
		for _, x := range []struct {
			times64 float64
			want    int8
		}{{0, 0}, {1, 1}, {-1, -1}, {0.5, 0}, {0.51, 1}, {1.5, 2}, {2.5, 2}, {-0.5, 0}, {-2.5, -2}, {64, 64}, {126.5, 126}, {127, 127}, {127.49, 127}, {-127.49, -127}, {1e-30, 0}} {
			y := plain(s)
			(*gains(&y)[i])[7] = bits(x.times64 / 64)
			importsTo(t, fmt.Sprint("gain ", i, " of ", x.times64), s, y, api.OK)
			if m, e := file.Import(s, vocabOf(t, s), y); e != api.OK || of(&m)[i][7] != x.want {
				t.Error("gain", i, x, e)
			}
		}
		for _, times64 := range []float64{127.5, 128, -127.5, -128, 256, 1e30, -1e30} {
			y := plain(s)
			(*gains(&y)[i])[0] = bits(times64 / 64)
			importsTo(t, fmt.Sprint("gain ", i, " of ", times64), s, y, api.ErrScales)
		}
	}
}

// 17.4: ScoreS as it is said.
func TestImportOfScoreShifts(t *testing.T) {
	s := two()
	for i := range 2 {
		for score := range 32 {
			x := plain(s)
			x.Blocks[i].ScoreS = score
			importsTo(t, "a score's shift", s, x, api.OK)
			if m, e := file.Import(s, vocabOf(t, s), x); e != api.OK || m.Blocks[i].ScoreS != score || m.Blocks[1-i].ScoreS != 3 {
				t.Error("ScoreS", score, e)
			}
		}
		for _, score := range []int{-1, 32, 256, math.MinInt, math.MaxInt, 1 << 32} {
			x := plain(s)
			x.Blocks[i].ScoreS = score
			importsTo(t, "no score's shift", s, x, api.ErrScales)
		}
	}
}

// refusesSingles asks for an error of Import.
func refusesSingles(t *testing.T, what string, s api.Shape, v api.Vocab, x api.Singles, want api.Errno) {
	t.Helper()
	m, e := file.Import(s, v, x)
	noModel(t, what, want)(m, e)
}

// 17.4, R2: each error ahead of those that are named behind it.
func TestImportErrorsInTheirOrder(t *testing.T) {
	s := two()
	bad := api.Vocab{Texts: []string{"x"}}
	infinite, huge := bits(math.Inf(1)), bits(1e38)
	x := plain(s)
	refusesSingles(t, "texts", s, bad, x, api.ErrTexts)
	refusesSingles(t, "other texts", s, vocabOf(t, tiny()), x, api.ErrPart)
	v := vocabOf(t, s)
	v.Merges = []api.Merge{{Left: 1, Right: 2, Out: 2}}
	refusesSingles(t, "merge", s, v, x, api.ErrMerge)
	v.Merges = filled(1025, api.Merge{})
	refusesSingles(t, "merges", s, v, x, api.ErrMerge)
	refusesSingles(t, "texts that are too long", s, api.Vocab{Texts: []string{"", "a", "b", "c", strings.Repeat("d", 65)}}, x, api.ErrTexts)
	far := copyOfSingles(x)
	far.Embed = filled(40, single.Near(127, 14))
	refusesSingles(t, "too far", s, vocabOf(t, s), far, api.ErrTooFar)
	refusesSingles(t, "texts, too far", s, bad, far, api.ErrTexts)
	for i := range numbersOf(&x) {
		great := copyOfSingles(x)
		(*numbersOf(&great)[i])[0] = huge
		refusesSingles(t, "too great", s, bad, great, api.ErrScales)
		for j := range numbersOf(&x) {
			for _, none := range []uint32{infinite, bits(math.Inf(-1)), bits(math.NaN()), 0xffffffff, 0x7f800001} {
				both := copyOfSingles(great)
				both.Blocks[0].ScoreS = -1
				l := *numbersOf(&both)[j]
				l[len(l)-1] = none
				refusesSingles(t, fmt.Sprint("too great in ", i, ", not finite in ", j), s, bad, both, api.ErrFinite)
			}
		}
		for _, n := range []int{0, 1, -1} {
			other := copyOfSingles(x)
			other.Embed[0], other.Unembed[0] = infinite, infinite
			l := numbersOf(&other)[i]
			switch n {
			case 0:
				*l = nil
			case 1:
				*l = append(*l, 0)
			case -1:
				*l = (*l)[1:]
			}
			refusesSingles(t, fmt.Sprint("a number too many or too few in ", i), s, bad, other, api.ErrSingles)
			refusesSingles(t, "no shape", of(5, 7, 8, 3, 2, 3), bad, other, api.ErrShape)
		}
	}
	refusesSingles(t, "no singles", s, bad, api.Singles{}, api.ErrSingles)
	refusesSingles(t, "no singles and no shape", api.Shape{}, bad, api.Singles{}, api.ErrShape)
}

// 17.4: just as many blocks as there are layers, and lists that have as many numbers together.
func TestImportOfOtherBlocks(t *testing.T) {
	s := two()
	x := plain(s)
	for n, want := range []api.Errno{api.ErrSingles, api.ErrSingles, api.OK, api.ErrSingles, api.ErrSingles} {
		y := copyOfSingles(x)
		y.Blocks = append(y.Blocks, y.Blocks...)[:n]
		_, e := file.Import(s, vocabOf(t, s), y)
		if e != want {
			t.Error("blocks", n, e)
		}
	}
	for i := range numbersOf(&x) {
		for j := range numbersOf(&x) {
			if i == j {
				continue
			}
			y := copyOfSingles(x)
			from, to := numbersOf(&y)[i], numbersOf(&y)[j]
			*to = append(*to, (*from)[0])
			*from = (*from)[1:]
			refusesSingles(t, fmt.Sprint("from ", i, " to ", j), s, vocabOf(t, s), y, api.ErrSingles)
		}
	}
	for _, edge := range edges() {
		for i := range 6 {
			l := [6]int{5, 7, 8, 2, 2, 3}
			l[i] = edge
			other := of(l[0], l[1], l[2], l[3], l[4], l[5])
			if shape.Check(other) != api.OK {
				refusesSingles(t, "shape", other, vocabOf(t, s), x, api.ErrShape)
			} else if other != s && i != 1 && i != 3 {
				refusesSingles(t, "another shape", other, vocabOf(t, s), x, api.ErrSingles)
			}
		}
	}
}

// 17.4: a vocabulary with merges goes in as it is.
func TestImportOfVocabularies(t *testing.T) {
	m := longest(t)
	x := plain(m.Shape)
	if e := imports(t, "longest", m.Shape, m.Vocab, x); e != api.OK {
		t.Error("Import", e)
	}
}
