package vocab_test

import (
	"slices"
	"strings"
	"testing"

	"herald/api"
	"herald/vocab"
)

// 13.2
func TestEncode(t *testing.T) {
	abc := texts("", "c", "b", "a", "ab", "bc", "abc", "cab")
	ab, bc := api.Merge{Left: 3, Right: 2, Out: 4}, api.Merge{Left: 2, Right: 1, Out: 5}
	abThenC, aThenBC := api.Merge{Left: 4, Right: 1, Out: 6}, api.Merge{Left: 3, Right: 5, Out: 6}
	cThenAB := api.Merge{Left: 1, Right: 4, Out: 7}
	aba := texts("", "a", "b", "ab", "aba")
	as := texts("", "a", "aa", "aaa", "aaaa")
	twoAs, fourAs := api.Merge{Left: 1, Right: 1, Out: 2}, api.Merge{Left: 2, Right: 2, Out: 4}
	for what, c := range map[string]struct {
		v    api.Vocab
		text string
		want []int
	}{
		"nothing":                           {of(abc, ab), "", nil},
		"no merges":                         {of(abc), "abc", tokens(3, 2, 1)},
		"one byte":                          {of(abc, ab), "b", tokens(2)},
		"the least rank":                    {of(abc, ab, bc), "abc", tokens(4, 1)},
		"the least rank behind":             {of(abc, bc, ab), "abc", tokens(3, 5)},
		"a merge of what was merged":        {of(abc, ab, abThenC), "abc", tokens(6)},
		"of a lesser rank":                  {of(abc, abThenC, ab), "abc", tokens(6)},
		"to the left":                       {of(abc, aThenBC, bc), "abc", tokens(6)},
		"two ways to one text":              {of(abc, ab, bc, aThenBC, abThenC), "abcabc", tokens(6, 6)},
		"anew, ahead of the same one again": {of(aba, merge(3, 1, 4), merge(1, 2, 3)), "abab", tokens(4, 2)}, // not 3, 3
		"anew, with what stands ahead":      {of(abc, cThenAB, ab, abThenC), "cabcab", tokens(7, 7)},
		"the first place":                   {of(as, twoAs), "aaa", tokens(2, 1)},
		"the first places":                  {of(as, twoAs), "aaaaa", tokens(2, 2, 1)},
		"and these again":                   {of(as, twoAs, fourAs), "aaaaaaa", tokens(4, 2, 1)},
		"these ahead":                       {of(as, fourAs, twoAs), "aaaaaaa", tokens(4, 2, 1)},
		"one more to each":                  {of(as, api.Merge{Left: 2, Right: 1, Out: 3}, twoAs), "aaaaaaa", tokens(3, 3, 1)},
		"no character":                      {of(texts("", "\xff", "\x00", "\xff\x00"), api.Merge{Left: 1, Right: 2, Out: 3}), "\x00\xff\x00\xff", tokens(2, 3, 1)},
	} {
		says(t, what, c.want)(vocab.Encode(c.v, c.text))
	}
}

// 13.2
func TestEncodeOfBytesThatNoTokenSays(t *testing.T) {
	v := of(texts("", "a", "b", "ab", "cc", "abc"), api.Merge{Left: 1, Right: 2, Out: 3})
	for text, place := range map[string]int{
		"c": 0, "cc": 0, "abc": 2, "abcc": 2, "ab\xff": 2, "\x00ab": 0, "aé": 1, "ababababd": 8, "dc": 0, "a d": 1,
	} {
		fails(t, text, place, api.ErrByte)(vocab.Encode(v, text))
	}
	all := of(letters(256))
	for b := range 256 {
		says(t, "each byte", tokens(b+1))(vocab.Encode(all, string([]byte{byte(b)})))
		some := of(slices.Delete(letters(256), b+1, b+2))
		fails(t, "the missing one", 1, api.ErrByte)(vocab.Encode(some, string([]byte{byte(b + 1), byte(b), byte(b)})))
	}
}

// 13.2: held against the chapter's words, of merges in all orders.
func TestEncodeByTheWords(t *testing.T) {
	s := spread(2)
	for round := range 3000 {
		bytes := texts("a", "ab", "abc", "\x00\xff")[s.below(4)]
		v := s.vocab(bytes, 1+s.below(30), 1+s.below(60))
		for _, n := range tokens(s.below(8), s.below(40), round%100) {
			text := s.text(n, bytes)
			says(t, text, encodeOf(v, text))(vocab.Encode(v, text))
		}
	}
}

// 13.2, R6: as many texts and merges as may be, of a long text.
func TestEncodeOfMuch(t *testing.T) {
	v := manyMerges(1024)
	for n := range 200 {
		text := strings.Repeat("a", n)
		says(t, text, encodeOf(v, text))(vocab.Encode(v, text))
	}
	doubles := of(texts("", "a"))
	for i := 1; i < 7; i++ {
		doubles.Texts = append(doubles.Texts, strings.Repeat("a", 1<<i))
		doubles.Merges = append(doubles.Merges, api.Merge{Left: i, Right: i, Out: i + 1})
	}
	says(t, "long", slices.Repeat(tokens(7), 1<<14))(vocab.Encode(doubles, strings.Repeat("a", 1<<20)))
	slices.Reverse(doubles.Merges)
	says(t, "long", append(slices.Repeat(tokens(7), 1<<14), 6, 1))(vocab.Encode(doubles, strings.Repeat("a", 1<<20+33)))
}

// 13.8
func TestUses(t *testing.T) {
	v := exampleVocab()
	says(t, "no texts", tokens(0, 0, 0, 0, 0))(vocab.Uses(v, nil))
	says(t, "empty ones", tokens(0, 0, 0, 0, 0))(vocab.Uses(v, texts("", "")))
	says(t, "some", tokens(0, 1, 2, 1, 2))(vocab.Uses(v, texts("abb", "bab", "", "babba")))
	says(t, "no merge across texts", tokens(0, 2, 2, 0, 0))(vocab.Uses(v, texts("a", "b", "a", "b")))
	says(t, "no merges", tokens(0, 2, 4, 0, 0))(vocab.Uses(of(v.Texts), texts("abb", "abb")))
	fails(t, "the first wrong one", 2, api.ErrByte)(vocab.Uses(v, texts("ab", "b", "abc", "c")))
	fails(t, "at once", 0, api.ErrByte)(vocab.Uses(v, texts("bbbc", "a")))
	fails(t, "at last", 3, api.ErrByte)(vocab.Uses(v, texts("", "a", "a", "\x00")))
}

// 13.8: held against the chapter's words.
func TestUsesByTheWords(t *testing.T) {
	s := spread(3)
	for range 1000 {
		v := s.vocab("abc", s.below(20), s.below(40))
		l, uses := make([]string, s.below(9)), make([]int, len(v.Texts))
		for i := range l {
			l[i] = s.text(s.below(20), "abc")
			for _, token := range encodeOf(v, l[i]) {
				uses[token]++
			}
		}
		says(t, "Uses", uses)(vocab.Uses(v, l))
	}
}
