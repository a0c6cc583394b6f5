package vocab_test

import (
	"slices"
	"strings"
	"testing"

	"herald/api"
	"herald/vocab"
)

// 13.7
func TestLongest(t *testing.T) {
	v := of(texts("", "abc", "b", "ab", "a", "bcd", "xyz"))
	for text, want := range map[string][]int{
		"": nil, "a": tokens(4), "ab": tokens(3), "abc": tokens(1), "aab": tokens(4, 3), "abab": tokens(3, 3), "bcdb": tokens(5, 2), "xyzxyz": tokens(6, 6), "bb": tokens(2, 2),
	} {
		says(t, text, want)(vocab.Longest(v, text))
	}
	for text, place := range map[string]int{
		"c": 0, "abcd": 3, "xy": 0, "axy": 1, "abxyzx": 5, "\x00": 0, "ab\xff": 2, "abbc": 3,
	} {
		fails(t, text, place, api.ErrByte)(vocab.Longest(v, text))
	}
}

// 13.7
func TestFewest(t *testing.T) {
	v := of(texts("", "abc", "b", "ab", "a", "bcd", "xyz"))
	for text, want := range map[string][]int{
		"": nil, "a": tokens(4), "ab": tokens(3), "abc": tokens(1), "abcd": tokens(4, 5), "abcabcd": tokens(1, 4, 5), "bcdb": tokens(5, 2), "aab": tokens(4, 3),
	} {
		says(t, text, want)(vocab.Fewest(v, text))
	}
	for text, place := range map[string]int{
		"c": 0, "xy": 0, "axy": 1, "abcdx": 4, "abcc": 3, "\x00": 0, "abxyzx": 5, "abbc": 3, "xyzxyzxy": 6,
	} {
		fails(t, text, place, api.ErrByte)(vocab.Fewest(v, text))
	}
}

// 13.7: neither the longest token nor the least one at a place leads to the fewest, and of as few the first that differs counts.
func TestFewestOfSeveral(t *testing.T) {
	three := of(texts("", "aaa", "a", "aa"))
	says(t, "aaaa", tokens(1, 2))(vocab.Fewest(three, "aaaa"))
	three = of(texts("", "a", "aa", "aaa"))
	says(t, "aaaa", tokens(1, 3))(vocab.Fewest(three, "aaaa"))
	says(t, "aaaaa", tokens(2, 3))(vocab.Fewest(three, "aaaaa"))
	says(t, "aaaaaaa", tokens(1, 3, 3))(vocab.Fewest(three, "aaaaaaa"))
	four := of(texts("", "abcd", "a", "b", "c", "d", "e", "bcde"))
	says(t, "abcde", tokens(1, 6))(vocab.Fewest(four, "abcde"))
	four = of(texts("", "a", "abcd", "b", "c", "d", "e", "bcde"))
	says(t, "abcde", tokens(1, 7))(vocab.Fewest(four, "abcde"))
}

// 13.7: where the farthest beginning is not that of the longest tokens.
func TestFarthest(t *testing.T) {
	v := of(texts("", "a", "abb", "bb", "bbbc", "abbbb"))
	fails(t, "Longest", 3, api.ErrByte)(vocab.Longest(v, "abbbc!"))
	fails(t, "Fewest", 5, api.ErrByte)(vocab.Fewest(v, "abbbc!"))
	says(t, "Fewest", tokens(1, 4))(vocab.Fewest(v, "abbbc"))
	fails(t, "a token behind a gap", 1, api.ErrByte)(vocab.Fewest(v, "a!abb"))
}

// 13.7: held against the chapter's words.
func TestCutsByTheWords(t *testing.T) {
	s := spread(8)
	refused := 0
	for range 4000 {
		v := of(texts(""))
		for range 1 + s.below(8) {
			if text := s.text(1+s.below(5), "ab"); !slices.Contains(v.Texts, text) {
				v.Texts = append(v.Texts, text)
			}
		}
		text := s.text(s.below(12), texts("ab", "ab", "abc")[s.below(3)])
		want, at, ok := longestOf(v, text)
		if ok {
			says(t, "Longest of "+text, want)(vocab.Longest(v, text))
		} else {
			fails(t, "Longest of "+text, at, api.ErrByte)(vocab.Longest(v, text))
		}
		want, at, ok = fewestOf(v, text)
		if ok {
			says(t, "Fewest of "+text, want)(vocab.Fewest(v, text))
		} else {
			fails(t, "Fewest of "+text, at, api.ErrByte)(vocab.Fewest(v, text))
			refused++
		}
	}
	if refused < 100 || refused > 3900 {
		t.Error(refused)
	}
}

// 13.7: merges have no part in it.
func TestCutsHaveNoMerges(t *testing.T) {
	s := spread(9)
	for range 200 {
		v, text := s.vocab("ab", 10, 10), s.text(20, "ab")
		bare := of(v.Texts)
		want, _, _ := vocab.Longest(bare, text)
		says(t, "Longest", want)(vocab.Longest(v, text))
		want, _, _ = vocab.Fewest(bare, text)
		says(t, "Fewest", want)(vocab.Fewest(v, text))
	}
}

// 13.7, R6: long tokens, and a long text.
func TestCutsOfMuch(t *testing.T) {
	v := manyMerges(0)
	const size = 1 << 18
	as := strings.Repeat("a", size)
	says(t, "Longest", slices.Repeat(tokens(64), size/64))(vocab.Longest(v, as))
	says(t, "Fewest", slices.Repeat(tokens(64), size/64))(vocab.Fewest(v, as))
	says(t, "Longest", append(slices.Repeat(tokens(64), size/64-1), 63))(vocab.Longest(v, as[1:]))
	says(t, "Fewest", append(tokens(63), slices.Repeat(tokens(64), size/64-1)...))(vocab.Fewest(v, as[1:]))
	fails(t, "Longest", size, api.ErrByte)(vocab.Longest(v, as+"b"))
	fails(t, "Fewest", size, api.ErrByte)(vocab.Fewest(v, as+"b"))
	all := of(manyTexts(512))
	says(t, "Longest", tokens(511, 1))(vocab.Longest(all, "t511t1"))
	fails(t, "Fewest", 8, api.ErrByte)(vocab.Fewest(all, "t511t511t"))
}
