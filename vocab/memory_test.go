package vocab_test

import (
	"slices"
	"testing"

	"herald/api"
	"herald/vocab"
)

// spare is a list with room behind its end, which is filled too.
func spare[T any](fill T, l ...T) []T {
	room := append(make([]T, 0, 2*len(l)+4), l...)
	for i := len(l); i < cap(room); i++ {
		room[:cap(room)][i] = fill
	}
	return room
}

// entire is a list with what lies behind its end.
func entire[T any](l []T) []T { return l[:cap(l)] }

// spoil writes over a list, and over what lies behind its end.
func spoil[T any](l []T, with T) {
	for i := range entire(l) {
		entire(l)[i] = with
	}
}

// roomy is a vocabulary with room behind both lists.
func roomy(v api.Vocab) api.Vocab {
	return of(spare("q", v.Texts...), spare(merge(7, 8, 9), v.Merges...)...)
}

// whole is a copy of all that a vocabulary's lists have.
func whole(v api.Vocab) api.Vocab {
	return of(slices.Clone(entire(v.Texts)), slices.Clone(entire(v.Merges))...)
}

// R4, R5: what calls by a vocabulary are handed stays as it is, and what they answer is the caller's.
func TestListsAreTheCallersOwn(t *testing.T) {
	s := spread(16)
	for range 50 {
		v := roomy(s.vocab("ab", 10, 10))
		text, l := s.text(30, "ab"), spare("q", s.text(9, "ab"), s.text(9, "ab"))
		was, wasTexts := whole(v), slices.Clone(entire(l))
		for what, call := range map[string]func() ([]int, int, api.Errno){
			"Encode":  func() ([]int, int, api.Errno) { return vocab.Encode(v, text) },
			"Longest": func() ([]int, int, api.Errno) { return vocab.Longest(v, text) },
			"Fewest":  func() ([]int, int, api.Errno) { return vocab.Fewest(v, text) },
			"Uses":    func() ([]int, int, api.Errno) { return vocab.Uses(v, l) },
		} {
			first, _, _ := call()
			second, _, _ := call()
			kept := slices.Clone(first)
			spoil(first, -1)
			says(t, what+": another answer", kept)(second, 0, api.OK)
			says(t, what+" again", kept)(call())
			isVocab(t, what+": what was handed in", was)(whole(v), api.OK)
		}
		if !slices.Equal(entire(l), wasTexts) {
			t.Error("Uses", l)
		}
		vocab.Check(v)
		vocab.Same(v, v)
		vocab.Print(v)
		isVocab(t, "what was handed in", was)(whole(v), api.OK)
	}
}

// R4
func TestDecodeLeavesTokens(t *testing.T) {
	v, l := roomy(exampleVocab()), spare(-7, 1, 2, 3)
	isText(t, "Decode", "abab", 0, api.OK)(vocab.Decode(v, l))
	isText(t, "Decode", "", 3, api.ErrToken)(vocab.Decode(v, l[:4]))
	if !slices.Equal(entire(l), tokens(1, 2, 3, -7, -7, -7, -7, -7, -7, -7)) {
		t.Error(entire(l))
	}
}

// R4, R5: what is learned, and what is read, is the caller's.
func TestVocabulariesAreTheCallersOwn(t *testing.T) {
	s := spread(17)
	l := spare("q", s.text(60, "ab"), "ab", s.text(60, "ab"))
	was := slices.Clone(entire(l))
	told, _ := vocab.Print(exampleVocab())
	for what, call := range map[string]func() (api.Vocab, api.Errno){
		"Train": func() (api.Vocab, api.Errno) { return vocab.Train(l, 20) },
		"Parse": func() (api.Vocab, api.Errno) { v, _, e := vocab.Parse(told); return v, e },
	} {
		first, _ := call()
		second, _ := call()
		kept := of(slices.Clone(first.Texts), slices.Clone(first.Merges)...)
		spoil(first.Texts, "spoiled")
		spoil(first.Merges, merge(-1, -1, -1))
		isVocab(t, what+": another answer", kept)(second, api.OK)
		isVocab(t, what+" again", kept)(call())
	}
	if !slices.Equal(entire(l), was) {
		t.Error("Train", l)
	}
	learned, _ := vocab.Train(l, 20)
	kept := of(slices.Clone(learned.Texts), slices.Clone(learned.Merges)...)
	spoil(l, "spoiled")
	isVocab(t, "Train of what was changed since", kept)(learned, api.OK)
}

// R3: lists that are empty are the same as none.
func TestEmptyLists(t *testing.T) {
	ab := api.Vocab{Texts: texts("", "a", "b"), Merges: []api.Merge{}}
	checks(t, "no merges", ab, 0, api.OK)
	says(t, "Encode", tokens(1, 2))(vocab.Encode(ab, "ab"))
	checks(t, "nothing", api.Vocab{Texts: texts(), Merges: []api.Merge{}}, 0, api.ErrTexts)
	isText(t, "Decode", "", 0, api.OK)(vocab.Decode(ab, tokens()))
	says(t, "Uses", tokens(0, 0, 0))(vocab.Uses(ab, texts()))
	failsAll(t, "Train", api.ErrTrain)(vocab.Train(texts(), 9))
	prints(t, ab, "token \"a\"\ntoken \"b\"\n")
}
