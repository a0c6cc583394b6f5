package vocab_test

import (
	"slices"
	"testing"

	"herald/api"
	"herald/vocab"
)

// 13.5, 13.10: what each way of cutting answers says the text, without the end; merges leave nothing that they could take.
func TestWhatCutsSay(t *testing.T) {
	s := spread(11)
	for range 800 {
		v, text := s.vocab("abc", 1+s.below(40), 1+s.below(80)), s.text(s.below(60), "abc")
		coded, _, _ := vocab.Encode(v, text)
		longest, _, _ := vocab.Longest(v, text)
		fewest, _, _ := vocab.Fewest(v, text)
		for _, row := range [][]int{coded, longest, fewest} {
			isText(t, "Decode", text, 0, api.OK)(vocab.Decode(v, row))
			if slices.Contains(row, 0) {
				t.Error("the end", row)
			}
		}
		for _, m := range v.Merges {
			if at := sideBySide(coded, m.Left, m.Right); at >= 0 {
				t.Error("Encode", v, text, coded, m, at)
			}
		}
		if len(fewest) > len(longest) || len(longest) > len(text) || len(fewest) > len(coded) {
			t.Error(len(fewest), len(longest), len(coded), len(text))
		}
	}
}

// 13.10: where Longest cuts a text, so does Fewest; where a token says each byte, both do.
func TestFewestWhereLongestCuts(t *testing.T) {
	s := spread(12)
	for range 2000 {
		v := of(texts(""))
		for range 1 + s.below(6) {
			if text := s.text(1+s.below(4), "ab"); !slices.Contains(v.Texts, text) {
				v.Texts = append(v.Texts, text)
			}
		}
		text := s.text(s.below(30), "ab")
		longest, at, e := vocab.Longest(v, text)
		fewest, far, f := vocab.Fewest(v, text)
		if e == api.OK && f != api.OK || len(fewest) > len(longest) && e == api.OK || f != api.OK && far < at {
			t.Error(v, text, longest, at, e, fewest, far, f)
		}
	}
}

// 13.10: what Train learns is right, and Encode of each text is its row at the end.
func TestEncodeOfWhatWasLearned(t *testing.T) {
	s := spread(13)
	for round := range 200 {
		bytes := texts("ab", "abc", "\x00\xff\n", "to be or not to be")[round%4]
		l := texts(bytes, "")
		for range s.below(5) {
			l = append(l, s.text(s.below(150), bytes))
		}
		size := 20 + s.below(200)
		v, e := vocab.Train(l, size)
		if e != api.OK {
			t.Fatal(e)
		}
		right(t, v)
		_, rows := trainOf(l, size)
		for i, text := range l {
			says(t, text, rows[i])(vocab.Encode(v, text))
		}
	}
}

// 13.10
func TestParseOfPrint(t *testing.T) {
	s := spread(14)
	for range 300 {
		v := s.vocab(texts("ab", "\"\\", "\x00\n\xff", "\\x0 ")[s.below(4)], s.below(50), s.below(80))
		told, e := vocab.Print(v)
		if e != api.OK {
			t.Fatal(e)
		}
		got, at, e := vocab.Parse(told)
		isVocab(t, "Parse", v)(got, e)
		again, e := vocab.Print(got)
		if at != 0 || again != told || e != api.OK {
			t.Error(at, again, told, e)
		}
	}
}

// 13.10
func TestUsesAreAsManyAsTokens(t *testing.T) {
	s := spread(15)
	for range 300 {
		v, text := s.vocab("abc", s.below(20), s.below(40)), s.text(s.below(60), "abc")
		row, _, _ := vocab.Encode(v, text)
		uses, _, _ := vocab.Uses(v, texts(text))
		sum := 0
		for _, n := range uses {
			sum += n
		}
		if sum != len(row) || len(uses) != len(v.Texts) || uses[0] != 0 {
			t.Error(uses, row)
		}
	}
}
