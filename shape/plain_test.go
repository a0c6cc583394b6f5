package shape_test

import (
	"math"
	"math/big"
	"slices"
	"testing"

	"herald/act"
	"herald/api"
	"herald/rope"
	"herald/shape"
)

// of is a shape.
func of(vocab, context, dim, heads, layers, hidden int) api.Shape {
	return api.Shape{Vocab: vocab, Context: context, Dim: dim, Heads: heads, Layers: layers, Hidden: hidden}
}

// where is a place of a fault.
func where(part, number int) api.Where { return api.Where{Part: part, Number: number} }

// least and tiny are the shapes of the chapter's examples, and two is one with two blocks in which no two sizes are the same but those that must be.
func least() api.Shape { return of(2, 1, 2, 1, 1, 1) }
func tiny() api.Shape  { return of(3, 4, 2, 1, 1, 2) }
func two() api.Shape   { return of(5, 7, 8, 2, 2, 3) }

// shapes is some shapes that are right, each limit among them.
func shapes() []api.Shape {
	return []api.Shape{
		least(), tiny(), two(), of(3, 8, 2, 1, 1, 2), of(64, 64, 8, 2, 2, 16), of(255, 3, 6, 3, 8, 4), of(256, 3, 6, 1, 3, 5), of(257, 3, 4, 2, 2, 17),
		of(511, 512, 2, 1, 1, 1), of(512, 2, 64, 32, 1, 256), of(512, 512, 64, 1, 1, 65), of(4, 511, 62, 31, 8, 255), of(2, 1, 64, 2, 2, 64), of(9, 9, 16, 4, 4, 63),
	}
}

// edges is numbers around every limit of a shape, and those that are far away.
func edges() []int {
	return []int{math.MinInt, math.MinInt + 1, math.MinInt32, -512, -2, -1, 0, 1, 2, 3, 4, 7, 8, 9, 31, 32, 33, 63, 64, 65, 66, 128, 255, 256, 257, 511, 512, 513, 1024, math.MaxInt32, 1 << 32, 1<<32 + 2, 1 << 62, math.MaxInt - 1, math.MaxInt}
}

// isRight is what the chapter's words say of a shape.
func isRight(s api.Shape) bool {
	if s.Vocab < 2 || s.Vocab > 512 || s.Context < 1 || s.Context > 512 || s.Dim < 2 || s.Dim > 64 || s.Heads < 1 {
		return false
	}
	if s.Layers < 1 || s.Layers > 8 || s.Hidden < 1 || s.Hidden > 256 {
		return false
	}
	for pairs := 1; pairs <= 32; pairs++ { // of each head
		if s.Heads <= 64 && s.Heads*pairs*2 == s.Dim {
			return true
		}
	}
	return false
}

// sampled is the sample of a shape that is right.
func sampled(t *testing.T, s api.Shape, seed int) api.Model {
	t.Helper()
	m, e := shape.Sample(s, seed)
	if e != api.OK {
		t.Fatalf("Sample of %v: %d", s, e)
	}
	return m
}

// valid asks what Valid says of a model, and whether all calls that ask for a valid one say the same.
func valid(t *testing.T, what string, m api.Model, want api.Where, err api.Errno) {
	t.Helper()
	if w, e := shape.Valid(m); w != want || e != err {
		t.Errorf("%s: Valid: %v, %d and not %v, %d", what, w, e, want, err)
	}
	if err == api.OK {
		return
	}
	if l, e := shape.Reaches(m); err != api.ErrTooFar && (len(l) != 0 || e != err) {
		t.Errorf("%s: Reaches: %v, %d and not %d", what, l, e, err)
	}
	for _, layers := range []int{-1, 0, 1, 2, 9} {
		noModel(t, what+": Cut", err)(shape.Cut(m, layers))
	}
	if shape.Fitting(m, m.Vocab) {
		t.Errorf("%s: Fitting", what)
	}
}

// reaches asks for just these reaches.
func reaches(t *testing.T, what string, m api.Model, want ...int64) {
	t.Helper()
	if l, e := shape.Reaches(m); !slices.Equal(l, want) || e != api.OK {
		t.Errorf("%s: Reaches: %v, %d and not %v", what, l, e, want)
	}
}

// noModel asks for an error, and for no model beside it.
func noModel(t *testing.T, what string, want api.Errno) func(m api.Model, e api.Errno) {
	return func(m api.Model, e api.Errno) {
		t.Helper()
		if e != want || m.Shape != (api.Shape{}) || m.EmbedShift != 0 || m.LogitS != 0 || len(m.Vocab.Texts)+len(m.Vocab.Merges)+len(m.Blocks) != 0 {
			t.Errorf("%s: %v, %d and not %d", what, m.Shape, e, want)
		}
		for i, l := range rows(&m) {
			if len(*l) != 0 {
				t.Errorf("%s: row %d: %v", what, i, *l)
			}
		}
	}
}

// rows is all rows of a model: Embed, Cos, Sin, Bend, Gain, Unembed, then nine of each block.
func rows(m *api.Model) []*[]int8 {
	l := []*[]int8{&m.Embed, &m.Cos, &m.Sin, &m.Bend, &m.Gain, &m.Unembed}
	for i := range m.Blocks {
		l = append(l, blockRows(&m.Blocks[i])...)
	}
	return l
}

// blockRows is all rows of a block.
func blockRows(b *api.Block) []*[]int8 {
	return []*[]int8{&b.Gain1, &b.Q, &b.K, &b.V, &b.O, &b.Gain2, &b.Middle.Gate, &b.Middle.Up, &b.Middle.Down}
}

// shifts is all shifts of a model: EmbedShift, LogitS, then eight of each block.
func shifts(m *api.Model) []*int {
	l := []*int{&m.EmbedShift, &m.LogitS}
	for i := range m.Blocks {
		l = append(l, blockShifts(&m.Blocks[i])...)
	}
	return l
}

// blockShifts is all shifts of a block.
func blockShifts(b *api.Block) []*int {
	return []*int{&b.QS, &b.KS, &b.VS, &b.OS, &b.ScoreS, &b.Middle.GateS, &b.Middle.UpS, &b.Middle.DownS}
}

// copyOf is a model that shares nothing with m.
func copyOf(m api.Model) api.Model {
	m.Vocab = api.Vocab{Texts: slices.Clone(m.Vocab.Texts), Merges: slices.Clone(m.Vocab.Merges)}
	m.Blocks = slices.Clone(m.Blocks)
	for _, l := range rows(&m) {
		*l = slices.Clone(*l)
	}
	return m
}

// isSame tells whether two models are the same in all, part by part.
func isSame(a, b api.Model) bool {
	if a.Shape != b.Shape || !slices.Equal(a.Vocab.Texts, b.Vocab.Texts) || !slices.Equal(a.Vocab.Merges, b.Vocab.Merges) {
		return false
	}
	alike := func(x, y *[]int8) bool { return slices.Equal(*x, *y) }
	return slices.EqualFunc(rows(&a), rows(&b), alike) && slices.EqualFunc(shifts(&a), shifts(&b), func(x, y *int) bool { return *x == *y })
}

// filled is n times a number.
func filled(n int, x int8) []int8 { return slices.Repeat([]int8{x}, n) }

// spread is numbers from 0 to less than a bound, in no order that the eye could tell, always the same ones.
type spread uint64

func (s *spread) below(bound int) int {
	*s = *s*6364136223846793005 + 1442695040888963407
	return int(uint64(*s>>11) % uint64(bound))
}

// numbers is n numbers of 8 bits, all 256 of them.
func (s *spread) numbers(n int) []int8 {
	l := make([]int8, n)
	for i := range l {
		l[i] = int8(s.below(256) - 128)
	}
	return l
}

// roundOf is the nearest whole number of x / 2^shift for an x from 0 on, of two as near the even one, by the words of chapter 2.
func roundOf(x int64, shift int) int64 {
	d := int64(1) << shift
	floor, left := x/d, x%d
	if 2*left > d || 2*left == d && floor%2 == 1 {
		floor++
	}
	return floor
}

// sizeOf is the size of a number.
func sizeOf(x int8) int64 {
	if x < 0 {
		return -int64(x)
	}
	return int64(x)
}

// reachesOf is the reaches of a model whose parts fit, by the chapter's words.
func reachesOf(m api.Model) []int64 {
	first := int64(0)
	for _, x := range m.Embed {
		first = max(first, sizeOf(x))
	}
	for range m.EmbedShift {
		first *= 2
	}
	l := []int64{first}
	for _, b := range m.Blocks {
		l = append(l, l[len(l)-1]+mostOf(b.O, m.Shape.Dim, b.OS))
		l = append(l, l[len(l)-1]+mostOf(b.Middle.Down, m.Shape.Hidden, b.Middle.DownS))
	}
	return l
}

// mostOf is the greatest of what comes out of a matrix's rows.
func mostOf(matrix []int8, cols, shift int) int64 {
	most := int64(0)
	for row := range slices.Chunk(matrix, cols) {
		sum := int64(0)
		for _, x := range row {
			sum += sizeOf(x)
		}
		most = max(most, roundOf(127*sum, shift))
	}
	return most
}

// sampleOf is the model of a seed, by the chapter's words, with a state of any size.
func sampleOf(s api.Shape, seed int) api.Model {
	whole := new(big.Int).Lsh(big.NewInt(1), 64)
	state := new(big.Int).Mod(big.NewInt(int64(seed)), whole)
	next := func(n int) []int8 {
		var l []int8
		for range n {
			state.Mul(state, big.NewInt(6364136223846793005))
			state.Mod(state.Add(state, big.NewInt(1442695040888963407)), whole)
			highest := new(big.Int).Rsh(state, 56).Int64()
			if highest > 127 {
				highest -= 256
			}
			l = append(l, int8(highest))
		}
		return l
	}
	m := api.Model{Shape: s, Vocab: vocabOf(s.Vocab), EmbedShift: 2, Gain: filled(s.Dim, 64), LogitS: 4 + fourOf(s.Dim)}
	m.Cos, m.Sin, _ = rope.Table(s.Context, s.Dim/s.Heads/2)
	m.Bend, _ = act.Table(api.BendSoft)
	m.Embed = next(s.Vocab * s.Dim)
	for range s.Layers {
		in := 7 + fourOf(s.Dim)
		b := api.Block{Gain1: filled(s.Dim, 64), Gain2: filled(s.Dim, 64), QS: in, KS: in, VS: in, OS: 4 + fourOf(s.Dim), ScoreS: 3}
		b.Q = next(s.Dim * s.Dim)
		b.K = next(s.Dim * s.Dim)
		b.V = next(s.Dim * s.Dim)
		b.O = next(s.Dim * s.Dim)
		b.Middle.Gate = next(s.Hidden * s.Dim)
		b.Middle.Up = next(s.Hidden * s.Dim)
		b.Middle.Down = next(s.Dim * s.Hidden)
		b.Middle.GateS, b.Middle.UpS, b.Middle.DownS = in, in, 4+fourOf(s.Hidden)
		m.Blocks = append(m.Blocks, b)
	}
	m.Unembed = next(s.Vocab * s.Dim)
	return m
}

// fourOf is the least s with 4^s at least n, by a list.
func fourOf(n int) int {
	for s, most := range []int{1, 4, 16, 64, 256, 1024} {
		if n <= most {
			return s
		}
	}
	return -1
}

// vocabOf is the vocabulary of a sample, by the chapter's words.
func vocabOf(n int) api.Vocab {
	v := api.Vocab{Texts: []string{""}}
	for i := 1; i < n; i++ {
		switch {
		case i <= 255:
			v.Texts = append(v.Texts, string([]byte{byte((96 + i) % 256)}))
		default:
			v.Texts = append(v.Texts, string([]byte{97, byte((97 + i - 256) % 256)}))
		}
		if i >= 256 && i <= 510 {
			v.Merges = append(v.Merges, api.Merge{Left: 1, Right: i - 255, Out: i})
		}
	}
	return v
}
