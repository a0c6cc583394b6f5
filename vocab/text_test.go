package vocab_test

import (
	"strings"
	"testing"

	"herald/api"
	"herald/vocab"
)

// prints asks for the text of a vocabulary, and for the vocabulary of that text.
func prints(t *testing.T, v api.Vocab, want string) {
	t.Helper()
	if s, e := vocab.Print(v); s != want || e != api.OK {
		t.Errorf("Print of %v: %q, %d and not %q", v, s, e, want)
	}
	parses(t, want)
	got, _, e := vocab.Parse(want)
	isVocab(t, "Parse", v)(got, e)
}

// parses asks for what Parse answers by the chapter's words, and hands the error on.
func parses(t *testing.T, s string) api.Errno {
	t.Helper()
	want, at, err := parseOf(s)
	refuses(t, s, at, err)
	if v, _, _ := vocab.Parse(s); !vocab.Same(v, want) {
		t.Errorf("Parse(%.200q): %v and not %v", s, v, want)
	}
	return err
}

// refuses asks for a place and an error of Parse, and for nothing beside it.
func refuses(t *testing.T, s string, place int, err api.Errno) {
	t.Helper()
	v, at, e := vocab.Parse(s)
	if at != place || e != err || e != api.OK && len(v.Texts)+len(v.Merges) > 0 {
		t.Errorf("Parse(%.200q): %v, %d, %d and not %d, %d", s, v, at, e, place, err)
	}
}

// 13.9
func TestPrint(t *testing.T) {
	prints(t, of(texts("", "a")), "token \"a\"\n")
	prints(t, exampleVocab(), "token \"a\"\ntoken \"b\"\ntoken \"ab\"\ntoken \"abb\"\nmerge 1 2 3\nmerge 3 2 4\n")
	prints(t, of(texts("", `"`, `\`, "\n\r\t", " ~", "\x1f\x7f", "\x00\xff", `\n`, `"a"`)),
		`token "\""
token "\\"
token "\n\r\t"
token " ~"
token "\x1f\x7f"
token "\x00\xff"
token "\\n"
token "\"a\""
`)
	prints(t, of(texts("", "é", "token", "merge 1 2 3")), "token \"\\xc3\\xa9\"\ntoken \"token\"\ntoken \"merge 1 2 3\"\n")
}

// 13.9: each byte, alone and among others.
func TestPrintOfEachByte(t *testing.T) {
	prints(t, of(letters(256)), printOf(of(letters(256))))
	for b := range 256 {
		v := of(texts("", "x"+string([]byte{byte(b)})+"n"))
		prints(t, v, printOf(v))
	}
}

// 13.9, R6
func TestPrintOfMuch(t *testing.T) {
	v := manyMerges(1024)
	prints(t, v, printOf(v))
	v = of(manyTexts(512))
	prints(t, v, printOf(v))
	v = of(texts("", strings.Repeat("\x00", 64)))
	prints(t, v, "token \""+strings.Repeat(`\x00`, 64)+"\"\n")
}

// 13.9
func TestParseOfLinesThatAreNone(t *testing.T) {
	const a, b = "token \"a\"\n", "token \"b\"\n"
	for s, place := range map[string]int{
		"\n":                                   0,
		"a":                                    0,
		"token":                                0,
		"token ":                               0,
		"token \n":                             0,
		"token \"\n":                           0,
		"token a\n":                            0,
		"token \"a\"":                          0,
		"token 'a'\n":                          0,
		"token `a`\n":                          0,
		"token \"a\" \n":                       0,
		"token  \"a\"\n":                       0,
		" token \"a\"\n":                       0,
		"Token \"a\"\n":                        0,
		"tokens \"a\"\n":                       0,
		"token\t\"a\"\n":                       0,
		"token\"a\"\n":                         0,
		"token \"a\"\r\n":                      0,
		"token \"a\n":                          0,
		"token a\"\n":                          0,
		"token \"a\"\"\n":                      0,
		"token \"\"\"\n":                       0,
		"token \"a\"x\n":                       0,
		"token \"a\nb\"\n":                     0,
		"token \"a\tb\"\n":                     0,
		"token \"é\"\n":                        0,
		"token \"\x7f\"\n":                     0,
		"token \"\\\"\n":                       0,
		"token \"\\\n":                         0,
		"token \"\\":                           0,
		"token \"\\a\"\n":                      0,
		"token \"\\'\"\n":                      0,
		"token \"\\0\"\n":                      0,
		"token \"\\u0001\"\n":                  0,
		"token \"\\x\"\n":                      0,
		"token \"\\x1\"\n":                     0,
		"token \"\\x1":                         0,
		"token \"\\x\n":                        0,
		"token \"\\x1g\"\n":                    0,
		"token \"\\xg1\"\n":                    0,
		"token \"\\xFF\"\n":                    0,
		"token \"\\xfF\"\n":                    0,
		"token \"\\XFF\"\n":                    0,
		"token \"\\x+1\"\n":                    0,
		"token \"\\x1_\"\n":                    0,
		"token \"\\x41\"\n":                    0,
		"token \"\\x20\"\n":                    0,
		"token \"\\x7e\"\n":                    0,
		"token \"\\x22\"\n":                    0,
		"token \"\\x5c\"\n":                    0,
		"token \"\\x0a\"\n":                    0,
		"token \"\\x0d\"\n":                    0,
		"token \"\\x09\"\n":                    0,
		a + "token \"b\"":                      1,
		a + "\n":                               1,
		a + "\n" + b:                           1,
		a + " ":                                1,
		a + b + "merge":                        2,
		a + b + "merge 1 2 3":                  2,
		a + "merge 1 1 1\n" + b:                2,
		a + "merge 1 1 1\n" + b + "!":          2,
		a + "merge 1 1 1\n\n":                  2,
		a + "merge 1 1\n":                      1,
		a + "merge 1 1 \n":                     1,
		a + "merge 1 1 1 \n":                   1,
		a + "merge 1 1 1 1\n":                  1,
		a + "merge  1 1 1\n":                   1,
		a + "merge 1  1 1\n":                   1,
		a + " merge 1 1 1\n":                   1,
		a + "merge 1 1 01\n":                   1,
		a + "merge 00 1 1\n":                   1,
		a + "merge 1 -1 1\n":                   1,
		a + "merge -0 1 1\n":                   1,
		a + "merge +1 1 1\n":                   1,
		a + "merge 1 1 1.\n":                   1,
		a + "merge 1 0x1 1\n":                  1,
		a + "merge 1 1 a\n":                    1,
		a + "merge 1,1,1\n":                    1,
		a + "merge 1 1 \"1\"\n":                1,
		a + "merges 1 1 1\n":                   1,
		a + "Merge 1 1 1\n":                    1,
		a + "token 1 1 1\n":                    1,
		a + " 1 1 1\n":                         1,
		a + "merge 1 1 1\r\n":                  1,
		a + "merge 1\t1 1\n":                   1,
		a + "merge 1 1 1234567890\n":           1,
		a + "merge 0000000001 1 1\n":           1,
		a + "merge 1 99999999999999999999 1\n": 1,
	} {
		refuses(t, s, place, api.ErrVocabLine)
		parses(t, s)
	}
}

// 13.9: lines that are of the form, but tell what is not right: what Check tells.
func TestParseOfWhatIsNotRight(t *testing.T) {
	const a, b = "token \"a\"\n", "token \"b\"\n"
	for s, want := range map[string]struct {
		place int
		e     api.Errno
	}{
		"":                                    {1, api.ErrTexts},
		"merge 1 1 1\n":                       {1, api.ErrTexts},
		"token \"\"\n":                        {1, api.ErrTexts},
		a + "token \"\"\n":                    {2, api.ErrTexts},
		a + b + a:                             {3, api.ErrTexts},
		a + a + "merge 0 0 0\n":               {2, api.ErrTexts},
		a + "merge 0 0 0\n":                   {0, api.ErrMerge},
		a + "merge 1 1 1\n":                   {0, api.ErrMerge},
		a + "merge 999999999 1 1\n":           {0, api.ErrMerge},
		a + b + "token \"ab\"\nmerge 1 2 3\n": {0, api.OK},
		a + b + "token \"ab\"\nmerge 1 2 3\nmerge 1 2 3\n": {1, api.ErrMerge},
		"token \"" + strings.Repeat("a", 64) + "\"\n":      {0, api.OK},
		"token \"" + strings.Repeat("a", 65) + "\"\n":      {1, api.ErrTexts},
		printOf(of(manyTexts(513))):                        {512, api.ErrTexts},
		printOf(of(manyTexts(600))):                        {512, api.ErrTexts},
		printOf(manyMerges(1025)):                          {1024, api.ErrMerge},
		printOf(of(manyTexts(600))) + "!\n":                {599, api.ErrVocabLine},
		a + a + "!\n":                                      {2, api.ErrVocabLine},
	} {
		refuses(t, s, want.place, want.e)
		parses(t, s)
	}
}

// 13.9: texts of vocabularies with a byte turned, taken out or put in anywhere are held against the chapter's words.
func TestParseByTheWords(t *testing.T) {
	s := spread(10)
	met := map[api.Errno]int{}
	for range 300 {
		v := s.vocab("ab\"\\\n\x00", s.below(5), 3)
		whole := printOf(v)
		prints(t, v, whole)
		for i := range len(whole) {
			other := s.text(1, "token\"\\merg 0123456789abcdefnrtxAF-+\n\x00\xff")
			for _, changed := range texts(whole[:i], whole[i:], whole[:i]+whole[i+1:], whole[:i]+other+whole[i+1:], whole[:i]+other+whole[i:]) {
				met[parses(t, changed)]++
			}
		}
	}
	for _, e := range []api.Errno{api.OK, api.ErrTexts, api.ErrMerge, api.ErrVocabLine} {
		if met[e] < 50 {
			t.Error(met)
		}
	}
}
