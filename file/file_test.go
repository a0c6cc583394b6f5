package file_test

import (
	"fmt"
	"math"
	"slices"
	"strings"
	"testing"

	"herald/api"
	"herald/file"
	"herald/shape"
)

// encodes asks whether Encode and Size answer what the chapter's words say.
func encodes(t *testing.T, what string, m api.Model) string {
	t.Helper()
	want, _ := fileOf(m)
	s, e := file.Encode(m)
	if s != want || e != api.OK {
		t.Errorf("%s: Encode: %d bytes, %d and not %d bytes", what, len(s), e, len(want))
	}
	if n := file.Size(m); n != len(want) {
		t.Errorf("%s: Size: %d and not %d", what, n, len(want))
	}
	return want
}

// noFile asks whether a model has no file, and Merge tells the same of it.
func noFile(t *testing.T, what string, m api.Model, want api.Errno) {
	t.Helper()
	if s, e := file.Encode(m); s != "" || e != want {
		t.Errorf("%s: Encode: %d bytes, %d and not %d", what, len(s), e, want)
	}
	if n := file.Size(m); n != 0 {
		t.Errorf("%s: Size: %d", what, n)
	}
	for _, l := range [][]api.Adapter{nil, {{Block: -1}}} {
		n, at, e := file.Merge(m, l)
		if at != -1 || e != want || !isSame(n, api.Model{}) {
			t.Errorf("%s: Merge: %d, %d and not %d", what, at, e, want)
		}
	}
}

// 17.1
func TestEncode(t *testing.T) {
	s := spread(1)
	for _, sh := range shapes() {
		encodes(t, fmt.Sprint("a sample of ", sh), sampled(t, sh, 3))
		encodes(t, fmt.Sprint("any of ", sh), wild(t, &s, sh))
	}
}

// longest is a model whose vocabulary has as many merges and as long texts as may be.
func longest(t *testing.T) api.Model {
	m := sampled(t, of(512, 3, 2, 1, 2, 1), 2)
	m.Vocab = api.Vocab{Texts: []string{""}}
	for i := 1; i < 512; i++ {
		m.Vocab.Texts = append(m.Vocab.Texts, strings.Repeat("a", min(i, 64)))
		if i > 64 {
			m.Vocab.Texts[i] = fmt.Sprintf("%064d", i)
		}
	}
	for out := 2; out <= 64; out++ {
		for left := 1; left < out && len(m.Vocab.Merges) < 1024; left++ {
			m.Vocab.Merges = append(m.Vocab.Merges, api.Merge{Left: left, Right: out - left, Out: out})
		}
	}
	if len(m.Vocab.Merges) != 1024 {
		t.Fatal("only so many merges", len(m.Vocab.Merges))
	}
	return m
}

// 17.1, 17.2, R6: the longest texts and the most merges.
func TestLongestVocabulary(t *testing.T) {
	m := longest(t)
	s := encodes(t, "longest", m)
	if e := decodes(t, "longest", s); e != api.OK {
		t.Error("Decode", e)
	}
	for cut := range 3 {
		if m.Vocab.Merges = m.Vocab.Merges[:1023-cut]; decodes(t, "less", encodes(t, "less", m)) != api.OK {
			t.Error("less")
		}
	}
}

// 17.1: all 256 numbers, and all shifts that may be.
func TestEncodeOfAllNumbers(t *testing.T) {
	m := sampled(t, of(3, 4, 2, 1, 8, 256), 1)
	for i := range m.Bend {
		m.Bend[i] = int8(i)
	}
	m.Embed = []int8{-128, -127, -1, 0, 1, 127}
	for i, shift := range shifts(&m) {
		*shift = i % 32
	}
	m.EmbedShift, m.LogitS = 20, 31
	s := encodes(t, "all numbers", m)
	decodes(t, "all numbers", s)
	m.Embed, m.EmbedShift = filled(6, int8(1)), 24
	decodes(t, "the greatest shift", encodes(t, "the greatest shift", m))
}

// 17.1: each error of shape.Valid.
func TestNoFile(t *testing.T) {
	is := func(what string, want api.Errno, change func(m *api.Model)) {
		t.Helper()
		m := sampled(t, two(), 4)
		change(&m)
		noFile(t, what, m, want)
	}
	is("shape", api.ErrShape, func(m *api.Model) { m.Shape.Heads = 3 })
	is("a shape that wraps", api.ErrShape, func(m *api.Model) { m.Shape.Layers += 1 << 16 })
	is("layers", api.ErrPart, func(m *api.Model) { m.Shape.Layers = 3 })
	is("text", api.ErrTexts, func(m *api.Model) { m.Vocab.Texts[2] = strings.Repeat("c", 65) })
	is("merge", api.ErrMerge, func(m *api.Model) { m.Vocab.Merges = []api.Merge{{Left: 1, Right: 2, Out: 2}} })
	is("texts", api.ErrPart, func(m *api.Model) { m.Vocab.Texts = m.Vocab.Texts[:3] })
	is("Embed", api.ErrPart, func(m *api.Model) { m.Embed = m.Embed[1:] })
	is("Down", api.ErrPart, func(m *api.Model) { m.Blocks[1].Middle.Down = nil })
	is("EmbedShift", api.ErrShifts, func(m *api.Model) { m.EmbedShift = -1 })
	is("a shift that wraps", api.ErrShifts, func(m *api.Model) { m.Blocks[0].QS += 256 })
	is("reach", api.ErrTooFar, func(m *api.Model) { m.Embed[0], m.EmbedShift = 127, 22 })
	noFile(t, "nothing", api.Model{}, api.ErrShape)
}

// 17.2: the bytes that stand at the two ends, each error ahead of the next.
func TestDecodeOfEnds(t *testing.T) {
	const magic = "HERALD\x00\x01"
	for n := range 16 {
		refuses(t, "fewer than 16", strings.Repeat("x", n), api.ErrShort)
		refuses(t, "fewer than 16", sealed(magic)[:n], api.ErrShort)
	}
	refuses(t, "other bytes", strings.Repeat("x", 16), api.ErrMagic)
	refuses(t, "other bytes, and the digest of them", sealed(strings.Repeat("x", 8)), api.ErrMagic)
	refuses(t, "another digest", magic+strings.Repeat("x", 8), api.ErrDigest)
	refuses(t, "nothing between", sealed(magic), api.ErrShort)
	_, s := example(t)
	for i := range 8 {
		for _, c := range []byte{magic[i] + 1, magic[i] ^ 32, magic[i] ^ 128} {
			other := magic[:i] + string([]byte{c}) + s[8:]
			refuses(t, "another byte", magic[:i]+string([]byte{c})+s[i+1:], api.ErrMagic)
			refuses(t, "another byte and another digest", other, api.ErrMagic)
			refuses(t, "another byte and its digest", sealed(bodyOf(s)[:i]+string([]byte{c})+bodyOf(s)[i+1:]), api.ErrMagic)
		}
	}
	refuses(t, "the digest with its highest byte first", bodyOf(s)+turnedRound(s[len(s)-8:]), api.ErrDigest)
}

// turnedRound is a text's bytes from the last to the first.
func turnedRound(s string) string {
	b := []byte(s)
	slices.Reverse(b)
	return string(b)
}

// 17.2: ErrShort, where bytes are missing, be the digest that of what is there.
func TestDecodeOfBeginnings(t *testing.T) {
	s := spread(5)
	for _, sh := range []api.Shape{tiny(), two(), of(5, 3, 4, 1, 2, 1)} {
		m := wild(t, &s, sh)
		body := bodyOf(encodes(t, "whole", m))
		for n := 8; n < len(body); n++ {
			refuses(t, fmt.Sprint(n, " bytes"), sealed(body[:n]), api.ErrShort)
		}
		for _, behind := range []string{"\x00", "x", sealed(body)[len(body):], body} {
			refuses(t, "bytes behind", sealed(body+behind), api.ErrLeft)
		}
	}
}

// 17.2: ErrShape behind the six numbers, ahead of what is missing behind them.
func TestDecodeOfShapes(t *testing.T) {
	_, s := example(t)
	body := bodyOf(s)
	for i := range 6 {
		for _, n := range []int{0, 1, 2, 3, 9, 64, 65, 255, 256, 257, 512, 513, 0x0200, 65535} {
			l := []int{3, 4, 2, 1, 1, 2}
			l[i] = n
			head := body[:8] + two16(l...)
			right := shape.Check(of(l[0], l[1], l[2], l[3], l[4], l[5])) == api.OK
			want := api.ErrShape
			if right {
				want = api.ErrShort
			}
			refuses(t, "only a shape", sealed(head), want)
			if !right {
				refuses(t, "a shape, and all behind it", sealed(head+body[20:]), want)
			}
			refuses(t, "half a number less", sealed(head[:len(head)-1]), api.ErrShort)
			refuses(t, "a number less", sealed(head[:len(head)-2]), api.ErrShort)
			decodes(t, "whatever it is", sealed(head+body[20:]))
		}
	}
}

// 17.2: ErrTexts ahead of a text's bytes, ErrMerge ahead of the first merge; what else is wrong with a vocabulary is told when all was read.
func TestDecodeOfVocabularies(t *testing.T) {
	_, s := example(t)
	body := bodyOf(s)
	head, rest := body[:22], body[29:]
	is := func(what string, want api.Errno, between string) {
		t.Helper()
		refuses(t, what, sealed(head+between), want)
	}
	is("65 bytes, none there", api.ErrTexts, "\x00\x41")
	is("255 bytes, none there", api.ErrTexts, "\xff")
	is("64 bytes, none there", api.ErrShort, "\x00\x40")
	is("64 bytes, 63 there", api.ErrShort, "\x00\x40"+strings.Repeat("x", 63))
	is("64 bytes, 65 behind them", api.ErrTexts, "\x00\x40"+strings.Repeat("x", 64)+"\x41")
	is("65 bytes, all there", api.ErrTexts, "\x00\x41"+strings.Repeat("x", 65)+"\x01b\x00\x00"+rest)
	is("64 bytes, all there", api.OK, "\x00\x40"+strings.Repeat("x", 64)+"\x01b\x00\x00"+rest)
	is("1025 merges, none there", api.ErrMerge, "\x00\x01a\x01b\x01\x04")
	is("65535 merges, none there", api.ErrMerge, "\x00\x01a\x01b\xff\xff")
	is("1024 merges, none there", api.ErrShort, "\x00\x01a\x01b\x00\x04")
	is("half a number of merges", api.ErrShort, "\x00\x01a\x01b\xff")
	is("a merge", api.OK, "\x00\x01a\x02aa\x01\x00"+two16(1, 1, 2)+rest)
	is("a merge, half of it", api.ErrShort, "\x00\x01a\x02aa\x01\x00"+two16(1, 1))
	is("a wrong merge", api.ErrMerge, "\x00\x01a\x02aa\x01\x00"+two16(1, 2, 2)+rest)
	is("a wrong merge, and nothing behind", api.ErrShort, "\x00\x01a\x02aa\x01\x00"+two16(1, 2, 2))
	is("a wrong merge, and bytes left", api.ErrLeft, "\x00\x01a\x02aa\x01\x00"+two16(1, 2, 2)+rest+"x")
	is("a merge whose tokens wrap", api.ErrMerge, "\x00\x01a\x02aa\x01\x00"+two16(257, 1, 2)+rest)
	is("the end with a text", api.ErrTexts, "\x01x\x01a\x01b\x00\x00"+rest)
	is("a token without a text", api.ErrTexts, "\x00\x00\x01b\x00\x00"+rest)
	is("a token without a text, and one that is too short", api.ErrShort, "\x00\x00\x01")
	is("the same text twice", api.ErrTexts, "\x00\x01b\x01b\x00\x00"+rest)
	is("the same text twice, and too many merges", api.ErrMerge, "\x00\x01b\x01b\x01\x04"+rest)
}

// 17.2: what shape.Valid says, once all was read.
func TestDecodeOfWhatIsNotValid(t *testing.T) {
	m := sampled(t, two(), 6)
	s, sections := fileOf(m)
	body := bodyOf(s)
	with := func(at int, c byte) string { return body[:at] + string([]byte{c}) + body[at+1:] }
	for _, x := range sections {
		if !strings.HasSuffix(x.Name, "shifts") {
			continue
		}
		for at := x.From; at < x.To; at++ {
			for _, c := range []byte{32, 128, 255} {
				refuses(t, x.Name, sealed(with(at, c)), api.ErrShifts)
				refuses(t, x.Name+" and bytes left", sealed(with(at, c)+"x"), api.ErrLeft)
				refuses(t, x.Name+" and bytes missing", sealed(with(at, c)[:len(body)-1]), api.ErrShort)
			}
		}
	}
	m.Embed[3], m.EmbedShift = -128, 22
	s, _ = fileOf(m)
	refuses(t, "too far", s, api.ErrTooFar)
	m.EmbedShift = 25
	s, _ = fileOf(m)
	refuses(t, "a shift that may not be, and too far", s, api.ErrShifts)
}

// 17.2: bodies of which some bytes are others, with their digest.
func TestDecodeByTheWords(t *testing.T) {
	s, seen := spread(7), map[api.Errno]int{}
	for range 30000 {
		b := []byte(bodyOf(encodes(t, "whole", wild(t, &s, []api.Shape{tiny(), of(5, 2, 2, 1, 1, 1)}[s.below(2)]))))
		for range s.below(4) {
			at := 8 + s.below(len(b)-8)
			if s.below(2) == 0 {
				at = 8 + s.below(24)
			}
			b[at] = byte([]int{0, 1, 2, 31, 32, 64, 65, 255, s.below(256)}[s.below(9)])
		}
		switch s.below(6) {
		case 0:
			b = b[:8+s.below(len(b)-8)]
		case 1:
			b = append(b, byte(s.below(256)))
		}
		seen[decodes(t, "by the words", sealed(string(b)))]++
	}
	for _, e := range []api.Errno{api.OK, api.ErrShort, api.ErrLeft, api.ErrShape, api.ErrTexts, api.ErrMerge, api.ErrShifts} {
		if seen[e] < 50 {
			t.Error("too few of an error", e, seen[e])
		}
	}
}

// 17.6
func TestSections(t *testing.T) {
	s := spread(8)
	for _, sh := range shapes() {
		m := wild(t, &s, sh)
		text, want := fileOf(m)
		l, e := file.Sections(text)
		if !slices.Equal(l, want) || e != api.OK || len(l) != 12+10*sh.Layers {
			t.Error("Sections", sh, len(l), e)
		}
		for i, x := range l {
			if i > 7 && i < len(l)-4 && !strings.HasPrefix(x.Name, fmt.Sprintf("block %d.", (i-8)/10)) {
				t.Error("Sections", x)
			}
		}
	}
	for _, x := range []string{"", strings.Repeat("x", 100), sealed("HERALD\x00\x01")} {
		if l, e := file.Sections(x); len(l) != 0 || e == api.OK {
			t.Error("Sections", l, e)
		}
	}
}

// 17.1: how many bytes of a file are its numbers.
func TestSizeAndNumbers(t *testing.T) {
	for _, sh := range shapes() {
		m := sampled(t, sh, math.MaxInt)
		n, _ := shape.Numbers(sh)
		texts := len(strings.Join(m.Vocab.Texts, ""))
		if want := 8 + 12 + 2 + sh.Vocab + texts + 2 + 6*len(m.Vocab.Merges) + 8*sh.Layers + n + 8; file.Size(m) != want {
			t.Error("Size", sh, file.Size(m), want)
		}
	}
}
