package vocab_test

import (
	"fmt"
	"math"
	"slices"
	"strings"
	"testing"

	"herald/api"
	"herald/vocab"
)

// merge is a merge of both tokens.
func merge(left, right, out int) api.Merge { return api.Merge{Left: left, Right: right, Out: out} }

// 13.6
func TestTrain(t *testing.T) {
	for what, c := range map[string]struct {
		l    []string
		size int
		want api.Vocab
	}{
		"one byte":                   {texts("a"), 2, of(texts("", "a"))},
		"one byte, and room":         {texts("a"), 512, of(texts("", "a"))},
		"bytes by their size":        {texts("b\xff\x00", "a"), 5, of(texts("", "\x00", "a", "b", "\xff"))},
		"once is not enough":         {texts("ab"), 9, of(texts("", "a", "b"))},
		"no pair across texts":       {texts("a", "b", "a", "b", "", "a", "b"), 9, of(texts("", "a", "b"))},
		"at two places of one row":   {texts("aaa"), 9, of(texts("", "a", "aa"), merge(1, 1, 2))},
		"of two rows":                {texts("xab", "ab"), 9, of(texts("", "a", "b", "x", "ab"), merge(1, 2, 4))},
		"no room":                    {texts("abab"), 3, of(texts("", "a", "b"))},
		"the greatest count":         {texts("abcbcbc"), 5, of(texts("", "a", "b", "c", "bc"), merge(2, 3, 4))},
		"of equal ones lesser Left":  {texts("cdcd", "abab"), 6, of(texts("", "a", "b", "c", "d", "ab"), merge(1, 2, 5))},
		"of equal ones lesser Right": {texts("acac", "xabxab"), 6, of(texts("", "a", "b", "c", "x", "ab"), merge(1, 2, 5))},
		"not lesser Right at first":  {texts("bab", "bab"), 4, of(texts("", "a", "b", "ab"), merge(1, 2, 3))},
		"what was learned, again":    {texts("abcabc"), 6, of(texts("", "a", "b", "c", "ab", "abc"), merge(1, 2, 4), merge(4, 3, 5))},
		"the rest on the right":      {texts("aaaaa", "aaaaa"), 4, of(texts("", "a", "aa", "aaa"), merge(1, 1, 2), merge(2, 1, 3))},
		"counts behind a merge":      {texts("aaaa", "aaaa"), 9, of(texts("", "a", "aa", "aaaa"), merge(1, 1, 2), merge(2, 2, 3))},
	} {
		isVocab(t, what, c.want)(vocab.Train(c.l, c.size))
	}
}

// 13.6: a pair whose text would be too long is left out, and one that is as long as may be is not.
func TestTrainOfLongTexts(t *testing.T) {
	v, e := vocab.Train(texts(strings.Repeat("a", 1000)), 512)
	if e != api.OK || len(v.Texts) != 8 || len(v.Texts[7]) != 64 {
		t.Error(v, e)
	}
	for _, n := range tokens(32, 33, 63, 64, 65) {
		// Of n unlike bytes over and over, all of which are of one length behind some merges.
		once := strings.Join(letters(n), "")
		l := texts(strings.Repeat(once, 5))
		want, _ := trainOf(l, 512)
		isVocab(t, "Train", want)(vocab.Train(l, 512))
		longest := 0
		for _, s := range want.Texts {
			longest = max(longest, len(s))
		}
		if longest > 64 || longest < 32 {
			t.Error(n, longest)
		}
	}
}

// 13.6: held against the chapter's words.
func TestTrainByTheWords(t *testing.T) {
	s := spread(6)
	for round := range 600 {
		bytes := texts("a", "ab", "abc", "abcdefgh", "\xff\x00", "the cat sat on the mat")[round%6]
		l := make([]string, 1+s.below(6))
		for i := range l {
			l[i] = s.text(s.below(60), bytes)
		}
		l = append(l, bytes)
		kinds := len(slices.Compact(slices.Sorted(slices.Values([]byte(bytes)))))
		for _, more := range tokens(0, 1, 2, s.below(30), 100, 450) {
			size := 1 + kinds + more
			want, _ := trainOf(l, size)
			isVocab(t, fmt.Sprint(l, size), want)(vocab.Train(l, size))
		}
	}
}

// 13.6, R2, R6
func TestTrainOfWhatMayNotBe(t *testing.T) {
	most := strings.Repeat("a", api.MaxTraining)
	all := strings.Join(letters(256), "")
	for what, c := range map[string]struct {
		l    []string
		size int
		e    api.Errno
	}{
		"no texts":                         {nil, 9, api.ErrTrain},
		"empty ones":                       {texts("", ""), 9, api.ErrTrain},
		"size 0":                           {texts("a"), 0, api.ErrTrain},
		"size 1":                           {texts("a"), 1, api.ErrTrain},
		"size below 0":                     {texts("a"), -1, api.ErrTrain},
		"the least size":                   {texts("a"), math.MinInt, api.ErrTrain},
		"too great":                        {texts("a"), 513, api.ErrTrain},
		"far too great":                    {texts("a"), math.MaxInt, api.ErrTrain},
		"no room for the bytes":            {texts("ab", "c"), 3, api.ErrTrain},
		"no room for all bytes":            {texts(all), 256, api.ErrTrain},
		"too many bytes":                   {texts(most + "a"), 9, api.ErrArg},
		"too many together":                {texts(most, "", "a"), 9, api.ErrArg},
		"too many, and a size that is not": {texts("a", most), 1, api.ErrArg},
		"far too many":                     {slices.Repeat(texts(most), 1000), 9, api.ErrArg},
		"as many as may be, and no size":   {texts(most), 1, api.ErrTrain},
	} {
		failsAll(t, what, c.e)(vocab.Train(c.l, c.size))
	}
	isVocab(t, "all bytes", of(letters(256)))(vocab.Train(texts(all), 257))
	isVocab(t, "all bytes, and room", of(letters(256)))(vocab.Train(texts(all), 512))
	isVocab(t, "room for the bytes", of(texts("", "a", "b", "c")))(vocab.Train(texts("ab", "c"), 4))
}

// 13.6, R6: as many bytes as may be.
func TestTrainOfMuch(t *testing.T) {
	want := of(texts("", "a"))
	for i := 1; i < 7; i++ {
		want.Texts = append(want.Texts, strings.Repeat("a", 1<<i))
		want.Merges = append(want.Merges, merge(i, i, i+1))
	}
	isVocab(t, "one text", want)(vocab.Train(texts(strings.Repeat("a", api.MaxTraining)), 512))
	half := strings.Repeat("a", api.MaxTraining/2)
	isVocab(t, "two texts", want)(vocab.Train(texts(half, "", half), 512))
	s := spread(7)
	v, e := vocab.Train(texts(s.text(api.MaxTraining, strings.Join(letters(256), ""))), 512)
	if len(right(t, v).Texts) != 512 || len(v.Merges) != 255 || e != api.OK {
		t.Error(len(v.Texts), len(v.Merges), e)
	}
}
