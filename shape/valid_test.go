package shape_test

import (
	"fmt"
	"math"
	"slices"
	"strings"
	"testing"

	"herald/api"
	"herald/shape"
)

// fault is something that is wrong with a model, and what Valid says of it.
type fault struct {
	what   string
	change func(m *api.Model)
	where  api.Where
	err    api.Errno
}

// shorter cuts a number off a list's end.
func shorter(l *[]int8) {
	if len(*l) > 0 {
		*l = (*l)[:len(*l)-1]
	}
}

// faults is one fault of each kind of a model of the shape two, in the order in which they are told.
func faults() []fault {
	l := []fault{
		{"shape", func(m *api.Model) { m.Shape.Heads = 3 }, where(api.PartShape, 0), api.ErrShape},
		{"text", func(m *api.Model) { m.Vocab.Texts[2] = "" }, where(api.PartVocab, 2), api.ErrTexts},
		{"merge", func(m *api.Model) { m.Vocab.Merges = []api.Merge{{Left: 1, Right: 2, Out: 2}} }, where(api.PartVocab, 0), api.ErrMerge},
		{"texts", func(m *api.Model) { m.Vocab.Texts = m.Vocab.Texts[:3] }, where(api.PartVocab, 3), api.ErrPart},
		{"Embed", func(m *api.Model) { shorter(&m.Embed) }, where(api.PartEmbed, 0), api.ErrPart},
		{"EmbedShift", func(m *api.Model) { m.EmbedShift = 25 }, where(api.PartEmbed, 0), api.ErrShifts},
		{"Cos", func(m *api.Model) { shorter(&m.Cos) }, where(api.PartAngles, 0), api.ErrPart},
		{"Sin", func(m *api.Model) { shorter(&m.Sin) }, where(api.PartAngles, 1), api.ErrPart},
	}
	for block := range 2 {
		for i := range 9 {
			l = append(l, fault{fmt.Sprint("row ", i, " of block ", block), func(m *api.Model) { shorter(blockRows(&m.Blocks[block])[i]) }, where(api.PartBlock, block), api.ErrPart})
		}
		for i := range 8 {
			l = append(l, fault{fmt.Sprint("shift ", i, " of block ", block), func(m *api.Model) { *blockShifts(&m.Blocks[block])[i] = 32 }, where(api.PartBlock, block), api.ErrShifts})
		}
	}
	return append(l,
		fault{"blocks", func(m *api.Model) { m.Blocks = append(m.Blocks, m.Blocks...) }, where(api.PartBlock, 2), api.ErrPart},
		fault{"Bend", func(m *api.Model) { shorter(&m.Bend) }, where(api.PartBend, 0), api.ErrPart},
		fault{"Gain", func(m *api.Model) { shorter(&m.Gain) }, where(api.PartGain, 0), api.ErrPart},
		fault{"Unembed", func(m *api.Model) { shorter(&m.Unembed) }, where(api.PartUnembed, 0), api.ErrPart},
		fault{"LogitS", func(m *api.Model) { m.LogitS = 32 }, where(api.PartUnembed, 0), api.ErrShifts},
		fault{"reach", func(m *api.Model) { m.Embed[0], m.EmbedShift = 127, 22 }, where(api.PartReach, 0), api.ErrTooFar},
	)
}

// 16.2: each fault alone, and of two the first one, R2.
func TestFaultsInTheirOrder(t *testing.T) {
	m := sampled(t, two(), 5)
	valid(t, "a sample", m, api.Where{}, api.OK)
	for i, first := range faults() {
		for j, second := range faults() {
			if j < i {
				continue
			}
			x := copyOf(m)
			second.change(&x)
			first.change(&x)
			valid(t, first.what+" and "+second.what, x, first.where, first.err)
		}
	}
}

// 16.2: a row of too few, of too many and of no numbers, each by itself.
func TestRowsOfOtherLengths(t *testing.T) {
	m := sampled(t, two(), 6)
	wheres := []api.Where{where(api.PartEmbed, 0), where(api.PartAngles, 0), where(api.PartAngles, 1), where(api.PartBend, 0), where(api.PartGain, 0), where(api.PartUnembed, 0)}
	for i := range rows(&m) {
		want := where(api.PartBlock, (i-6)/9)
		if i < 6 {
			want = wheres[i]
		}
		n := len(*rows(&m)[i])
		for _, other := range []int{0, 1, n - 1, n + 1, 2 * n, n + 256} {
			x := copyOf(m)
			*rows(&x)[i] = filled(other, 1)
			valid(t, fmt.Sprint("row ", i, " of ", other), x, want, api.ErrPart)
		}
		x := copyOf(m)
		*rows(&x)[i] = nil
		valid(t, fmt.Sprint("no row ", i), x, want, api.ErrPart)
		*rows(&x)[i] = filled(n, -1)
		valid(t, fmt.Sprint("another row ", i), x, api.Where{}, api.OK)
	}
}

// 16.2: parts that have as many numbers together as they should have.
func TestRowsThatTakeFromOneAnother(t *testing.T) {
	m := sampled(t, two(), 7)
	for i := range 9 {
		for j := range 9 {
			if i == j {
				continue
			}
			x := copyOf(m)
			l := blockRows(&x.Blocks[1])
			shorter(l[i])
			*l[j] = append(*l[j], 1)
			valid(t, fmt.Sprint("from ", i, " to ", j), x, where(api.PartBlock, 1), api.ErrPart)
		}
	}
	m.Cos, m.Sin = m.Cos[:3], append(m.Sin, m.Cos[3:]...)
	valid(t, "angles", m, where(api.PartAngles, 0), api.ErrPart)
}

// 16.2: each shift at its limits, and one past them.
func TestShifts(t *testing.T) {
	m := sampled(t, two(), 8)
	m.Embed = filled(len(m.Embed), 1)
	wheres := []api.Where{where(api.PartEmbed, 0), where(api.PartUnembed, 0)}
	for i := range shifts(&m) {
		want, most := where(api.PartBlock, (i-2)/8), 31
		if i < 2 {
			want = wheres[i]
		}
		if i == 0 {
			most = 24
		}
		for shift := range most + 1 {
			x := copyOf(m)
			*shifts(&x)[i] = shift
			valid(t, fmt.Sprint("shift ", i, ": ", shift), x, api.Where{}, api.OK)
		}
		for _, shift := range []int{-1, most + 1, 64, -64, 1 << 32, math.MinInt, math.MaxInt} {
			x := copyOf(m)
			*shifts(&x)[i] = shift
			valid(t, fmt.Sprint("shift ", i, ": ", shift), x, want, api.ErrShifts)
		}
	}
}

// 16.2: blocks that there are not, and those that are too many.
func TestBlocks(t *testing.T) {
	for layers := 1; layers <= 8; layers++ {
		s := two()
		s.Layers = layers
		m := sampled(t, s, 9)
		all := append(slices.Clone(m.Blocks), m.Blocks...)
		for n := range 2 * layers {
			m.Blocks = all[:n]
			switch {
			case n < layers:
				valid(t, "too few", m, where(api.PartBlock, n), api.ErrPart)
			case n == layers:
				valid(t, "just as many", m, api.Where{}, api.OK)
			default:
				valid(t, "too many", m, where(api.PartBlock, layers), api.ErrPart)
			}
		}
		m.Blocks = nil
		valid(t, "none", m, where(api.PartBlock, 0), api.ErrPart)
		m.Blocks = slices.Clone(all[:layers])
		m.Blocks[layers-1] = api.Block{}
		valid(t, "an empty one", m, where(api.PartBlock, layers-1), api.ErrPart)
	}
	m := sampled(t, two(), 9)
	m.Blocks = m.Blocks[:1]
	m.Blocks[0].KS = -1
	valid(t, "a block ahead of the one that is missing", m, where(api.PartBlock, 0), api.ErrShifts)
}

// 16.2: what vocab.Check tells, and another number of texts.
func TestVocabularies(t *testing.T) {
	m := sampled(t, two(), 10)
	is := func(what string, number int, err api.Errno, merges []api.Merge, texts ...string) {
		t.Helper()
		m.Vocab = api.Vocab{Texts: texts, Merges: merges}
		valid(t, what, m, where(api.PartVocab, number), err)
	}
	is("none", 0, api.ErrTexts, nil)
	is("one", 1, api.ErrTexts, nil, "")
	is("two", 2, api.ErrPart, nil, "", "a")
	is("one less", 4, api.ErrPart, nil, "", "a", "b", "c")
	is("one more", 6, api.ErrPart, nil, "", "a", "b", "c", "d", "e")
	is("no end", 0, api.ErrTexts, nil, "a", "b", "c", "d", "e")
	is("the same", 4, api.ErrTexts, nil, "", "a", "b", "c", "a")
	is("too long", 3, api.ErrTexts, nil, "", "a", "b", strings.Repeat("c", 65), "d")
	is("too long, and too few", 1, api.ErrTexts, nil, "", strings.Repeat("c", 65))
	is("too many", 512, api.ErrTexts, nil, make([]string, 513)...)
	merge := []api.Merge{{Left: 1, Right: 1, Out: 2}, {Left: 1, Right: 1, Out: 3}}
	is("a merge", 1, api.ErrMerge, merge, "", "a", "aa", "aaa", "b")
	is("a merge, and too few", 1, api.ErrMerge, merge, "", "a", "aa", "aaa")
	is("too many merges", 1024, api.ErrMerge, make([]api.Merge, 1025), "", "a", "b", "c", "d")
	m.Vocab = api.Vocab{Texts: []string{"", "a", "aa", "aaa", strings.Repeat("c", 64)}, Merges: merge[:1]}
	valid(t, "right", m, api.Where{}, api.OK)
}

// steep is a model of two blocks whose Embed reaches just as far as may be, and whose blocks add nothing.
func steep(t *testing.T) api.Model {
	m := sampled(t, two(), 11)
	m.Embed[len(m.Embed)-1], m.EmbedShift = -128, 21
	for i := range m.Blocks {
		b := &m.Blocks[i]
		clear(b.O)
		clear(b.Middle.Down)
		b.OS, b.Middle.DownS = 0, 0
	}
	return m
}

// 16.2, 16.3: the limit of the reaches, and one past it, in each place.
func TestReachesAtTheLimit(t *testing.T) {
	m := steep(t)
	valid(t, "just as far as may be", m, api.Where{}, api.OK)
	const most = api.MaxReach
	reaches(t, "just as far as may be", m, most, most, most, most, most)
	for i := range 4 {
		matrix := func(m *api.Model) ([]int8, *int) {
			b := &m.Blocks[i/2]
			if i%2 == 0 {
				return b.O, &b.OS
			}
			return b.Middle.Down, &b.Middle.DownS
		}
		l, _ := matrix(&m)
		for place := range l {
			x := copyOf(m)
			l, shift := matrix(&x)
			l[place] = -1
			want := []int64{most, most, most, most, most}
			for j := i + 1; j < 5; j++ {
				want[j] += 127
			}
			valid(t, "one past it", x, where(api.PartReach, i+1), api.ErrTooFar)
			reaches(t, "one past it", x, want...)
			*shift = 8 // 127 / 256 is nearer to 0
			valid(t, "shifted", x, api.Where{}, api.OK)
			*shift = 7
			valid(t, "shifted less", x, where(api.PartReach, i+1), api.ErrTooFar)
		}
	}
	m.Embed[0], m.EmbedShift = 127, 24
	valid(t, "farther", m, where(api.PartReach, 0), api.ErrTooFar)
	reaches(t, "farther", m, 1<<31, 1<<31, 1<<31, 1<<31, 1<<31)
}

// 16.3: the sizes of rows, the greatest of them, rounded.
func TestReachesByHand(t *testing.T) {
	m := sampled(t, of(2, 1, 2, 1, 1, 3), 0)
	m.Embed, m.EmbedShift = []int8{3, -5, 4, 0}, 3
	b := &m.Blocks[0]
	b.O, b.OS = []int8{1, -2, -4, 0}, 3                          // 127 times 4 is 508: 63.5 is 64
	b.Middle.Down, b.Middle.DownS = []int8{1, 1, 0, 1, -1, 1}, 1 // 127 times 3 is 381: 190.5 is 190
	reaches(t, "by hand", m, 40, 104, 294)
	b.O = []int8{-128, -128, 127, 127}
	b.OS = 0
	reaches(t, "by hand", m, 40, 40+127*256, 40+127*256+190)
	m.Embed = filled(4, 0)
	reaches(t, "of nothing", m, 0, 127*256, 127*256+190)
	b.OS, b.Middle.DownS = 31, 31
	reaches(t, "far shifted", m, 0, 0, 0)
}

// 16.2, 16.3: by the words.
func TestReachesByTheWords(t *testing.T) {
	s := spread(16)
	for _, sh := range shapes() {
		m := sampled(t, sh, 12)
		for range 20 {
			m.Embed, m.EmbedShift = s.numbers(len(m.Embed)), s.below(25)
			for i := range m.Blocks {
				b := &m.Blocks[i]
				b.OS, b.Middle.DownS = s.below(32), s.below(32)
				if s.below(2) == 0 {
					b.OS, b.Middle.DownS = s.below(10), s.below(10)
				}
			}
			want := reachesOf(m)
			reaches(t, "by the words", m, want...)
			place, err := api.Where{}, api.OK
			if i := slices.IndexFunc(want, func(x int64) bool { return x > 268435456 }); i >= 0 {
				place, err = where(api.PartReach, i), api.ErrTooFar
			}
			valid(t, "by the words", m, place, err)
		}
	}
}

// 16.3: no reach is too great for its room where all numbers are as great as they can be.
func TestReachesOfTheGreatest(t *testing.T) {
	m := sampled(t, of(512, 512, 64, 1, 8, 256), 0)
	for _, l := range rows(&m) {
		for i := range *l {
			(*l)[i] = -128
		}
	}
	m.EmbedShift = 24
	for i := range m.Blocks {
		m.Blocks[i].OS, m.Blocks[i].Middle.DownS = 0, 0
	}
	want := []int64{1 << 31}
	for range 8 {
		last := want[len(want)-1]
		want = append(want, last+127*128*64, last+127*128*64+127*128*256)
	}
	reaches(t, "the greatest", m, want...)
	if l, _ := shape.Reaches(m); len(l) != 17 {
		t.Error("Reaches", len(l))
	}
}
