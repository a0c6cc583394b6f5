package vocab_test

import (
	"testing"

	"herald/api"
	"herald/vocab"
)

// exampleVocab is the vocabulary of the first example.
func exampleVocab() api.Vocab {
	return of(texts("", "a", "b", "ab", "abb"), api.Merge{Left: 1, Right: 2, Out: 3}, api.Merge{Left: 3, Right: 2, Out: 4})
}

// The chapter's first example.
func TestExampleOfTexts(t *testing.T) {
	v := exampleVocab()
	says(t, "abb", tokens(4))(vocab.Encode(v, "abb"))
	says(t, "bab", tokens(2, 3))(vocab.Encode(v, "bab"))
	fails(t, "abc", 2, api.ErrByte)(vocab.Encode(v, "abc"))
	isText(t, "Decode", "abba", 0, api.OK)(vocab.Decode(v, tokens(4, 0, 1)))
	isText(t, "Decode", "", 0, api.ErrToken)(vocab.Decode(v, tokens(5)))
}

// The second one.
func TestExampleOfOrders(t *testing.T) {
	v := exampleVocab()
	v.Merges[0], v.Merges[1] = v.Merges[1], v.Merges[0]
	says(t, "abb", tokens(4))(vocab.Encode(v, "abb"))
	says(t, "aaa", tokens(2, 1))(vocab.Encode(of(texts("", "a", "aa"), api.Merge{Left: 1, Right: 1, Out: 2}), "aaa"))
}

// The third one.
func TestExampleOfCheck(t *testing.T) {
	checks(t, "a", of(texts("a")), 0, api.ErrTexts)
	checks(t, "a twice", of(texts("", "a", "a")), 2, api.ErrTexts)
	checks(t, "another text", of(texts("", "a", "b"), api.Merge{Left: 1, Right: 2, Out: 1}), 0, api.ErrMerge)
}

// The fourth one.
func TestExampleOfTrain(t *testing.T) {
	want := of(texts("", "a", "b", "ab"), api.Merge{Left: 1, Right: 2, Out: 3})
	isVocab(t, "Train", want)(vocab.Train(texts("abab", "ab"), 4))
	isVocab(t, "Train of more", want)(vocab.Train(texts("abab", "ab"), 5))
	isVocab(t, "Train of aaa", of(texts("", "a", "aa"), api.Merge{Left: 1, Right: 1, Out: 2}))(vocab.Train(texts("aaa"), 3))
	failsAll(t, "Train of ab", api.ErrTrain)(vocab.Train(texts("ab"), 2))
}

// The fifth one.
func TestExampleOfOtherCuts(t *testing.T) {
	v := of(texts("", "a", "b", "ab", "bab"))
	says(t, "Longest", tokens(3, 3))(vocab.Longest(v, "abab"))
	says(t, "Fewest", tokens(1, 4))(vocab.Fewest(v, "abab"))
	fails(t, "Longest", 2, api.ErrByte)(vocab.Longest(v, "abc"))
	learned, _ := vocab.Train(texts("abab", "ab"), 4)
	prints(t, learned, "token \"a\"\ntoken \"b\"\ntoken \"ab\"\nmerge 1 2 3\n")
}

// The numbers that the chapter gives to its errors and limits.
func TestNumbers(t *testing.T) {
	if api.ErrTexts != 130 || api.ErrMerge != 131 || api.ErrByte != 132 || api.ErrToken != 133 || api.ErrTrain != 134 || api.ErrVocabLine != 135 {
		t.Error("errors")
	}
	if api.MaxVocab != 512 || api.MaxTokenText != 64 || api.MaxMerges != 1024 || api.MaxTraining != 1048576 {
		t.Error("limits")
	}
}
