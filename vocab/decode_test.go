package vocab_test

import (
	"math"
	"slices"
	"strings"
	"testing"

	"herald/api"
	"herald/vocab"
)

// 13.3
func TestDecode(t *testing.T) {
	v := exampleVocab()
	for _, c := range []struct {
		l     []int
		want  string
		place int
		e     api.Errno
	}{
		{nil, "", 0, api.OK},
		{tokens(0), "", 0, api.OK},
		{tokens(0, 0, 2, 0), "b", 0, api.OK},
		{tokens(1, 2), "ab", 0, api.OK},
		{tokens(4, 3, 2, 1), "abbabba", 0, api.OK},
		{tokens(-1), "", 0, api.ErrToken},
		{tokens(1, 5), "", 1, api.ErrToken},
		{tokens(1, 4, -1, 5), "", 2, api.ErrToken},
		{tokens(1, 4, 5, -1), "", 2, api.ErrToken},
		{tokens(0, 0, 0, math.MaxInt), "", 3, api.ErrToken},
		{tokens(math.MinInt, 1), "", 0, api.ErrToken},
	} {
		isText(t, "Decode", c.want, c.place, c.e)(vocab.Decode(v, c.l))
	}
	all := of(manyTexts(512))
	isText(t, "the last token", "t511", 0, api.OK)(vocab.Decode(all, tokens(511)))
	isText(t, "one more", "", 0, api.ErrToken)(vocab.Decode(all, tokens(512)))
	long := of(texts("", strings.Repeat("\xff", 64)))
	isText(t, "long", strings.Repeat("\xff", 64*10000), 0, api.OK)(vocab.Decode(long, slices.Repeat(tokens(1), 10000)))
}

// 13.3: held against the chapter's words.
func TestDecodeByTheWords(t *testing.T) {
	s := spread(4)
	for range 500 {
		v := s.vocab("ab\x00", s.below(20), 3)
		l, want := make([]int, s.below(30)), ""
		for i := range l {
			l[i] = s.below(len(v.Texts))
			want += v.Texts[l[i]]
		}
		isText(t, "Decode", want, 0, api.OK)(vocab.Decode(v, l))
	}
}

// 13.4
func TestSame(t *testing.T) {
	ab := api.Merge{Left: 1, Right: 2, Out: 3}
	other := exampleVocab()
	slices.Reverse(other.Merges)
	turned := exampleVocab()
	turned.Texts[1], turned.Texts[2] = "b", "a"
	l := []api.Vocab{
		{},
		of(texts("")),
		of(texts("", "a")),
		of(texts("", "b")),
		of(texts("a", "")),
		of(texts("", "a", "b")),
		of(nil, ab),
		of(nil, api.Merge{Left: 1, Right: 2, Out: 4}),
		of(nil, api.Merge{Left: 1, Right: 3, Out: 3}),
		of(nil, api.Merge{Left: 2, Right: 2, Out: 3}),
		of(nil, ab, ab),
		of(texts("", "a", "b", "ab", "abb"), ab),
		of(texts("", "a", "b", "ab", "abb")),
		exampleVocab(),
		other,
		turned,
		manyMerges(1024),
		manyMerges(1025),
	}
	for i, a := range l {
		for j, b := range l {
			copied := of(slices.Clone(b.Texts), slices.Clone(b.Merges)...)
			if got := vocab.Same(a, copied); got != (i == j) {
				t.Error("Same", a, b, got)
			}
		}
	}
	if !vocab.Same(of(nil), api.Vocab{Texts: texts(), Merges: []api.Merge{}}) {
		t.Error("Same of none")
	}
}
