package file_test

import (
	"encoding/binary"
	"fmt"
	"hash/fnv"
	"math"
	"slices"
	"strings"
	"testing"

	"herald/act"
	"herald/api"
	"herald/file"
	"herald/rope"
	"herald/shape"
)

// of is a shape.
func of(vocab, context, dim, heads, layers, hidden int) api.Shape {
	return api.Shape{Vocab: vocab, Context: context, Dim: dim, Heads: heads, Layers: layers, Hidden: hidden}
}

// tiny is the shape of the chapter's examples, and two is one with two blocks in which no two sizes are the same but those that must be.
func tiny() api.Shape { return of(3, 4, 2, 1, 1, 2) }
func two() api.Shape  { return of(5, 7, 8, 2, 2, 3) }

// shapes is some shapes that are right, each limit among them.
func shapes() []api.Shape {
	return []api.Shape{
		of(2, 1, 2, 1, 1, 1), tiny(), two(), of(64, 64, 8, 2, 2, 16), of(255, 3, 6, 3, 8, 4), of(256, 3, 6, 1, 3, 5), of(257, 3, 4, 2, 2, 17),
		of(511, 512, 2, 1, 1, 1), of(512, 2, 64, 32, 1, 256), of(4, 511, 62, 31, 8, 255), of(2, 1, 64, 2, 2, 64),
	}
}

// sampled is the sample of a shape that is right.
func sampled(t *testing.T, s api.Shape, seed int) api.Model {
	t.Helper()
	m, e := shape.Sample(s, seed)
	if e != api.OK {
		t.Fatalf("Sample of %v: %d", s, e)
	}
	return m
}

// rows is all rows of a model: Embed, Cos, Sin, Bend, Gain, Unembed, then nine of each block.
func rows(m *api.Model) []*[]int8 {
	l := []*[]int8{&m.Embed, &m.Cos, &m.Sin, &m.Bend, &m.Gain, &m.Unembed}
	for i := range m.Blocks {
		b := &m.Blocks[i]
		l = append(l, &b.Gain1, &b.Q, &b.K, &b.V, &b.O, &b.Gain2, &b.Middle.Gate, &b.Middle.Up, &b.Middle.Down)
	}
	return l
}

// shifts is all shifts of a model: EmbedShift, LogitS, then eight of each block.
func shifts(m *api.Model) []*int {
	l := []*int{&m.EmbedShift, &m.LogitS}
	for i := range m.Blocks {
		b := &m.Blocks[i]
		l = append(l, &b.QS, &b.KS, &b.VS, &b.OS, &b.ScoreS, &b.Middle.GateS, &b.Middle.UpS, &b.Middle.DownS)
	}
	return l
}

// copyOf is a model that shares nothing with m.
func copyOf(m api.Model) api.Model {
	m.Vocab = api.Vocab{Texts: slices.Clone(m.Vocab.Texts), Merges: slices.Clone(m.Vocab.Merges)}
	m.Blocks = slices.Clone(m.Blocks)
	for _, l := range rows(&m) {
		*l = slices.Clone(*l)
	}
	return m
}

// isSame tells whether two models are the same in all, part by part.
func isSame(a, b api.Model) bool {
	if a.Shape != b.Shape || !slices.Equal(a.Vocab.Texts, b.Vocab.Texts) || !slices.Equal(a.Vocab.Merges, b.Vocab.Merges) {
		return false
	}
	alike := func(x, y *[]int8) bool { return slices.Equal(*x, *y) }
	return slices.EqualFunc(rows(&a), rows(&b), alike) && slices.EqualFunc(shifts(&a), shifts(&b), func(x, y *int) bool { return *x == *y })
}

// same asks whether two models are the same in all.
func same(t *testing.T, what string, a, b api.Model) {
	t.Helper()
	if !isSame(a, b) {
		t.Errorf("%s: another model", what)
	}
}

// noModel asks for an error, and for no model beside it.
func noModel(t *testing.T, what string, want api.Errno) func(m api.Model, e api.Errno) {
	return func(m api.Model, e api.Errno) {
		t.Helper()
		if e != want || m.Vocab.Texts != nil && len(m.Vocab.Texts) == 0 || !isSame(m, api.Model{}) {
			t.Errorf("%s: %v, %d and not %d", what, m.Shape, e, want)
		}
	}
}

// filled is n times something.
func filled[T any](n int, x T) []T { return slices.Repeat([]T{x}, n) }

// spread is numbers from 0 to less than a bound, in no order that the eye could tell, always the same ones.
type spread uint64

func (s *spread) below(bound int) int {
	*s = *s*6364136223846793005 + 1442695040888963407
	return int(uint64(*s>>11) % uint64(bound))
}

// numbers is n numbers of 8 bits, all 256 of them.
func (s *spread) numbers(n int) []int8 {
	l := make([]int8, n)
	for i := range l {
		l[i] = int8(s.below(256) - 128)
	}
	return l
}

// wild is a valid model of any numbers, of shifts up to their limits, and of a vocabulary with merges and with the longest text.
func wild(t *testing.T, s *spread, sh api.Shape) api.Model {
	t.Helper()
	m := sampled(t, sh, s.below(1000))
	for _, l := range rows(&m) {
		*l = s.numbers(len(*l))
	}
	for _, shift := range shifts(&m) {
		*shift = s.below(32)
	}
	m.EmbedShift = s.below(21)
	if sh.Vocab >= 4 && sh.Vocab < 256 {
		m.Vocab.Texts[2], m.Vocab.Texts[3] = "aa", strings.Repeat("long\x00\xff", 11)[:64]
		m.Vocab.Merges = filled(s.below(3), api.Merge{Left: 1, Right: 1, Out: 2})
		if len(m.Vocab.Merges) > 1 {
			m.Vocab.Merges = m.Vocab.Merges[:1]
		}
	}
	if where, e := shape.Valid(m); e != api.OK {
		t.Fatal("not valid", where, e)
	}
	return m
}

// edges is numbers around every limit, and those that are far away.
func edges() []int {
	return []int{math.MinInt, math.MinInt + 1, math.MinInt32, -512, -2, -1, 0, 1, 2, 3, 4, 5, 15, 16, 17, 31, 32, 33, 64, 255, 256, 512, 513, math.MaxInt32, 1 << 32, 1 << 62, math.MaxInt}
}

// sealed is bytes with their digest behind.
func sealed(body string) string {
	h := fnv.New64a()
	h.Write([]byte(body))
	return string(binary.LittleEndian.AppendUint64([]byte(body), h.Sum64()))
}

// bodyOf is a file without its digest.
func bodyOf(s string) string { return s[:len(s)-8] }

// two16 is numbers of 2 bytes.
func two16(l ...int) string {
	var b []byte
	for _, n := range l {
		b = binary.LittleEndian.AppendUint16(b, uint16(n))
	}
	return string(b)
}

// bytesOf is numbers as one byte each.
func bytesOf[T int | int8](l ...T) string {
	var b []byte
	for _, n := range l {
		b = append(b, byte(n))
	}
	return string(b)
}

// fileOf is the file of a model, by the chapter's words, and its sections: names of them and where they end.
func fileOf(m api.Model) (string, []api.Section) {
	s, l := "", []api.Section{}
	put := func(name, bytes string) {
		l = append(l, api.Section{Name: name, From: len(s), To: len(s) + len(bytes)})
		s += bytes
	}
	put("magic", "HERALD\x00\x01")
	put("shape", two16(m.Shape.Vocab, m.Shape.Context, m.Shape.Dim, m.Shape.Heads, m.Shape.Layers, m.Shape.Hidden))
	put("shifts", bytesOf(m.EmbedShift, m.LogitS))
	texts := ""
	for _, text := range m.Vocab.Texts {
		texts += bytesOf(len(text)) + text
	}
	put("texts", texts)
	merges := two16(len(m.Vocab.Merges))
	for _, x := range m.Vocab.Merges {
		merges += two16(x.Left, x.Right, x.Out)
	}
	put("merges", merges)
	put("embed", bytesOf(m.Embed...))
	put("cos", bytesOf(m.Cos...))
	put("sin", bytesOf(m.Sin...))
	for i, b := range m.Blocks {
		name := fmt.Sprintf("block %d.", i)
		put(name+"shifts", bytesOf(b.QS, b.KS, b.VS, b.OS, b.ScoreS, b.Middle.GateS, b.Middle.UpS, b.Middle.DownS))
		put(name+"gain1", bytesOf(b.Gain1...))
		put(name+"q", bytesOf(b.Q...))
		put(name+"k", bytesOf(b.K...))
		put(name+"v", bytesOf(b.V...))
		put(name+"o", bytesOf(b.O...))
		put(name+"gain2", bytesOf(b.Gain2...))
		put(name+"gate", bytesOf(b.Middle.Gate...))
		put(name+"up", bytesOf(b.Middle.Up...))
		put(name+"down", bytesOf(b.Middle.Down...))
	}
	put("bend", bytesOf(m.Bend...))
	put("gain", bytesOf(m.Gain...))
	put("unembed", bytesOf(m.Unembed...))
	put("digest", sealed(s)[len(s):])
	return s, l
}

// short is what a plain reader panics with, where bytes are missing.
type short struct{}

// modelOf is the model of a file, by the words of 17.2, with the bytes taken off the front.
func modelOf(s string) (m api.Model, e api.Errno) {
	if len(s) < 16 {
		return m, api.ErrShort
	}
	if s[:8] != "HERALD\x00\x01" {
		return m, api.ErrMagic
	}
	if sealed(bodyOf(s)) != s {
		return m, api.ErrDigest
	}
	defer func() {
		if _, isShort := recover().(short); isShort {
			m, e = api.Model{}, api.ErrShort
		}
	}()
	left := s[8 : len(s)-8]
	if m, e, left = taken(left); e == api.OK && left != "" {
		e = api.ErrLeft
	}
	if e == api.OK {
		_, e = shape.Valid(m)
	}
	if e != api.OK {
		return api.Model{}, e
	}
	return m, e
}

// taken is the model at the beginning of some bytes, and those that are left.
func taken(left string) (m api.Model, e api.Errno, behind string) {
	take := func(n int) string {
		if n > len(left) {
			panic(short{})
		}
		s := left[:n]
		left = left[n:]
		return s
	}
	number := func(n int) (x int) {
		for i, c := range []byte(take(n)) {
			x += int(c) << (8 * i)
		}
		return x
	}
	row := func(n int) (l []int8) {
		for _, c := range []byte(take(n)) {
			l = append(l, int8(c))
		}
		return l
	}
	m.Shape = of(number(2), number(2), number(2), number(2), number(2), number(2))
	if e := shape.Check(m.Shape); e != api.OK {
		return m, e, left
	}
	s := m.Shape
	m.EmbedShift, m.LogitS = number(1), number(1)
	for range s.Vocab {
		n := number(1)
		if n > 64 {
			return m, api.ErrTexts, left
		}
		m.Vocab.Texts = append(m.Vocab.Texts, take(n))
	}
	merges := number(2)
	if merges > 1024 {
		return m, api.ErrMerge, left
	}
	for range merges {
		m.Vocab.Merges = append(m.Vocab.Merges, api.Merge{Left: number(2), Right: number(2), Out: number(2)})
	}
	half := s.Dim / s.Heads / 2
	m.Embed, m.Cos, m.Sin = row(s.Vocab*s.Dim), row(s.Context*half), row(s.Context*half)
	for range s.Layers {
		b := api.Block{QS: number(1), KS: number(1), VS: number(1), OS: number(1), ScoreS: number(1)}
		b.Middle = api.Middle{GateS: number(1), UpS: number(1), DownS: number(1)}
		b.Gain1, b.Q, b.K, b.V, b.O, b.Gain2 = row(s.Dim), row(s.Dim*s.Dim), row(s.Dim*s.Dim), row(s.Dim*s.Dim), row(s.Dim*s.Dim), row(s.Dim)
		b.Middle.Gate, b.Middle.Up, b.Middle.Down = row(s.Hidden*s.Dim), row(s.Hidden*s.Dim), row(s.Hidden*s.Dim)
		m.Blocks = append(m.Blocks, b)
	}
	m.Bend, m.Gain, m.Unembed = row(256), row(s.Dim), row(s.Vocab*s.Dim)
	return m, api.OK, left
}

// decodes asks whether Decode and Sections answer what the chapter's words say, and tells the error.
func decodes(t *testing.T, what, s string) api.Errno {
	t.Helper()
	want, err := modelOf(s)
	m, e := file.Decode(s)
	if e != err || !isSame(m, want) {
		t.Errorf("%s: Decode: %d and not %d", what, e, err)
	}
	l, e := file.Sections(s)
	var sections []api.Section
	if err == api.OK {
		_, sections = fileOf(want)
	}
	if e != err || !slices.Equal(l, sections) {
		t.Errorf("%s: Sections: %v, %d and not %v, %d", what, l, e, sections, err)
	}
	return err
}

// refuses asks whether bytes are refused with just that error.
func refuses(t *testing.T, what, s string, want api.Errno) {
	t.Helper()
	if e := decodes(t, what, s); e != want {
		t.Errorf("%s: %d and not %d by the words themselves", what, e, want)
	}
}

// numbersOf is all lists of singles: Embed, Gain, Unembed, then nine of each block.
func numbersOf(x *api.Singles) []*[]uint32 {
	l := []*[]uint32{&x.Embed, &x.Gain, &x.Unembed}
	for i := range x.Blocks {
		b := &x.Blocks[i]
		l = append(l, &b.Gain1, &b.Gain2, &b.Q, &b.K, &b.V, &b.O, &b.Gate, &b.Up, &b.Down)
	}
	return l
}

// quantised is a list at its scale by the words of chapter 3: each number times a power of two is exact in 64 bits.
func quantised(l []uint32) ([]int8, int, bool) {
	zeros := true
	for _, b := range l {
		zeros = zeros && math.Float32frombits(b) == 0
	}
	if zeros {
		return filled(len(l), int8(0)), 0, true
	}
	for scale := 64; scale >= -64; scale-- {
		if row, ok := scaled(l, scale); ok {
			return row, scale, true
		}
	}
	return nil, 0, false
}

// scaled is a list at a scale, if it goes into 8 bits there.
func scaled(l []uint32, scale int) ([]int8, bool) {
	var row []int8
	for _, b := range l {
		x := math.RoundToEven(float64(math.Float32frombits(b)) * math.Pow(2, float64(scale)))
		if x < -127 || x > 127 {
			return nil, false
		}
		row = append(row, int8(x))
	}
	return row, true
}

// imported is the model of singles that go into the shape and are finite, by the words of 17.4.
func imported(s api.Shape, v api.Vocab, x api.Singles) (api.Model, api.Errno) {
	m, ok := api.Model{Shape: s, Vocab: v}, true
	own := func(l []uint32, row *[]int8, shift *int, most int, by func(z int) int) {
		q, z, fits := quantised(l)
		*row, *shift = q, by(z)
		ok = ok && fits && *shift >= 0 && *shift <= most
	}
	gain := func(l []uint32, row *[]int8) {
		q, fits := scaled(l, 6)
		*row = q
		ok = ok && fits
	}
	z, less := func(z int) int { return z }, func(z int) int { return z - 2 }
	own(x.Embed, &m.Embed, &m.EmbedShift, 24, func(z int) int { return 8 - z })
	m.Cos, m.Sin, _ = rope.Table(s.Context, s.Dim/s.Heads/2)
	for _, y := range x.Blocks {
		var b api.Block
		gain(y.Gain1, &b.Gain1)
		gain(y.Gain2, &b.Gain2)
		own(y.Q, &b.Q, &b.QS, 31, z)
		own(y.K, &b.K, &b.KS, 31, z)
		own(y.V, &b.V, &b.VS, 31, z)
		own(y.O, &b.O, &b.OS, 31, less)
		own(y.Gate, &b.Middle.Gate, &b.Middle.GateS, 31, z)
		own(y.Up, &b.Middle.Up, &b.Middle.UpS, 31, z)
		own(y.Down, &b.Middle.Down, &b.Middle.DownS, 31, less)
		b.ScoreS = y.ScoreS
		ok = ok && b.ScoreS >= 0 && b.ScoreS <= 31
		m.Blocks = append(m.Blocks, b)
	}
	m.Bend, _ = act.Table(api.BendSoft)
	gain(x.Gain, &m.Gain)
	own(x.Unembed, &m.Unembed, &m.LogitS, 31, less)
	if !ok {
		return api.Model{}, api.ErrScales
	}
	if _, e := shape.Valid(m); e != api.OK {
		return api.Model{}, e
	}
	return m, api.OK
}

// merged is a model with adapters that fit, by the words of 17.5, number by number.
func merged(m api.Model, l []api.Adapter) api.Model {
	m = copyOf(m)
	dim := m.Shape.Dim
	for _, a := range l {
		b := &m.Blocks[a.Block]
		matrix := [][]int8{nil, b.Q, b.K, b.V, b.O}[a.Part]
		for row := range dim {
			for column := range dim {
				sum := 0.0
				for rank := range a.Rank {
					sum += float64(a.B[row*a.Rank+rank]) * float64(a.A[rank*dim+column])
				}
				n := float64(matrix[row*dim+column]) + math.RoundToEven(sum/math.Pow(2, float64(a.Shift)))
				matrix[row*dim+column] = int8(min(127, max(-127, n)))
			}
		}
	}
	return m
}
