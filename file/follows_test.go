package file_test

import (
	"fmt"
	"testing"

	"herald/api"
	"herald/file"
	"herald/shape"
)

// 17.3: what Decode takes is the file of a valid model, there and back.
func TestThereAndBack(t *testing.T) {
	s := spread(20)
	for range 20 {
		for _, sh := range shapes() {
			m := wild(t, &s, sh)
			text, e := file.Encode(m)
			if e != api.OK {
				t.Fatal("Encode", e)
			}
			n, e := file.Decode(text)
			if e != api.OK || !shape.Same(m, n) {
				t.Error("Decode of Encode", sh, e)
			}
			if again, e := file.Encode(n); again != text || e != api.OK || file.Size(n) != len(text) {
				t.Error("Encode of Decode", sh, e)
			}
		}
	}
}

// 17.3: whatever bytes Decode takes, they are the file of what it answers.
func TestWhatIsTakenIsAFile(t *testing.T) {
	s, taken := spread(21), 0
	_, text := example(t)
	for range 30000 {
		b := []byte(bodyOf(text))
		for range 1 + s.below(3) {
			b[8+s.below(len(b)-8)] = byte(s.below(256))
		}
		x := sealed(string(b))
		m, e := file.Decode(x)
		if e != api.OK {
			continue
		}
		taken++
		if _, e := shape.Valid(m); e != api.OK {
			t.Error("not valid", e)
		}
		if again, e := file.Encode(m); again != x || e != api.OK {
			t.Error("Encode of Decode", e)
		}
	}
	if taken < 5000 {
		t.Error("taken", taken)
	}
}

// 17.3: of each byte all 255 others.
func TestOneByteIsAnother(t *testing.T) {
	_, text := example(t)
	b := []byte(text)
	for i, was := range b {
		want := api.ErrDigest
		if i < 8 {
			want = api.ErrMagic
		}
		for other := range 256 {
			if byte(other) == was {
				continue
			}
			b[i] = byte(other)
			if _, e := file.Decode(string(b)); e != want {
				t.Error("taken", i, other, e)
			}
		}
		b[i] = was
	}
}

// 17.3: beginnings, and what has bytes behind.
func TestBeginningsAndMore(t *testing.T) {
	_, text := example(t)
	for n := range text {
		want := api.ErrDigest
		if n < 16 {
			want = api.ErrShort
		}
		refuses(t, fmt.Sprint("a beginning of ", n), text[:n], want)
	}
	for c := range 256 {
		refuses(t, "a byte behind", text+string([]byte{byte(c)}), api.ErrDigest)
	}
	refuses(t, "twice", text+text, api.ErrDigest)
}

// 17.7: sections lie one behind the other, and each holds what it is named for.
func TestSectionsLieBehindOneAnother(t *testing.T) {
	s := spread(22)
	for _, sh := range shapes() {
		text, _ := file.Encode(wild(t, &s, sh))
		l, e := file.Sections(text)
		to, names := 0, map[string]int{}
		for _, x := range l {
			if x.From != to || x.To <= x.From {
				t.Error("Sections", x, to)
			}
			to = x.To
			names[x.Name]++
		}
		if to != len(text) || len(names) != len(l) || e != api.OK {
			t.Error("Sections", to, len(text), e)
		}
	}
}

// 17.7: of no adapters it is the model; of noughts it is the model but for -128.
func TestMergeOfNothing(t *testing.T) {
	s := spread(23)
	for _, sh := range shapes() {
		m := wild(t, &s, sh)
		for _, none := range [][]api.Adapter{nil, {}} {
			n, at, e := file.Merge(m, none)
			if same(t, "of no adapters", n, m); at != 0 || e != api.OK {
				t.Error("Merge", at, e)
			}
		}
		for part := 1; part <= 4; part++ {
			for _, noughtA := range []bool{true, false} {
				a := adapter(&s, sh)
				a.Part = part
				if noughtA {
					clear(a.A)
				} else {
					clear(a.B)
				}
				want := copyOf(m)
				b := want.Blocks[a.Block]
				matrix := [][]int8{nil, b.Q, b.K, b.V, b.O}[part]
				for i := range matrix {
					matrix[i] = max(-127, matrix[i])
				}
				n, at, e := file.Merge(m, []api.Adapter{a})
				if same(t, "of noughts", n, want); at != 0 || e != api.OK {
					t.Error("Merge", at, e)
				}
			}
		}
	}
}

// 17.7: what Import and Merge answer is valid, and goes into a file.
func TestModelsAreValid(t *testing.T) {
	s := spread(24)
	for _, sh := range shapes() {
		m, e := file.Import(sh, vocabOf(t, sh), plain(sh))
		if e != api.OK {
			t.Fatal("Import", e)
		}
		n, _, e := file.Merge(m, []api.Adapter{adapter(&s, sh), adapter(&s, sh)})
		if e != api.OK {
			t.Fatal("Merge", e)
		}
		for _, x := range []api.Model{m, n} {
			if where, e := shape.Valid(x); e != api.OK {
				t.Error("not valid", where, e)
			}
			text, _ := file.Encode(x)
			if y, e := file.Decode(text); e != api.OK || !shape.Same(x, y) {
				t.Error("Decode", e)
			}
		}
	}
}
