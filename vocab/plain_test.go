package vocab_test

import (
	"fmt"
	"regexp"
	"slices"
	"strconv"
	"strings"
	"testing"

	"herald/api"
	"herald/vocab"
)

// texts is a list of texts.
func texts(l ...string) []string { return l }

// tokens is a list of tokens.
func tokens(l ...int) []int { return l }

// of is a vocabulary of texts and of merges.
func of(texts []string, merges ...api.Merge) api.Vocab {
	return api.Vocab{Texts: texts, Merges: merges}
}

// letters is n tokens of a byte each behind the end.
func letters(n int) []string {
	l := texts("")
	for b := range n {
		l = append(l, string([]byte{byte(b)}))
	}
	return l
}

// manyTexts is n right texts.
func manyTexts(n int) []string {
	l := texts("")
	for i := 1; i < n; i++ {
		l = append(l, fmt.Sprint("t", i))
	}
	return l
}

// manyMerges is a vocabulary of 1 to 64 a's with n right merges, of which there can be 2016.
func manyMerges(n int) api.Vocab {
	v := of(texts(""))
	for i := 1; i <= api.MaxTokenText; i++ {
		v.Texts = append(v.Texts, strings.Repeat("a", i))
	}
	for left := 1; left < api.MaxTokenText; left++ {
		for right := 1; left+right <= api.MaxTokenText; right++ {
			if len(v.Merges) < n {
				v.Merges = append(v.Merges, api.Merge{Left: left, Right: right, Out: left + right})
			}
		}
	}
	return v
}

// says asks for just these tokens, and no error.
func says(t *testing.T, what string, want []int) func(got []int, at int, e api.Errno) {
	return func(got []int, at int, e api.Errno) {
		t.Helper()
		if !slices.Equal(got, want) || at != 0 || e != api.OK {
			t.Errorf("%s: %v, %d, %d and not %v", what, got, at, e, want)
		}
	}
}

// fails asks for an error at a place, and for nothing beside it.
func fails(t *testing.T, what string, place int, want api.Errno) func(got []int, at int, e api.Errno) {
	return func(got []int, at int, e api.Errno) {
		t.Helper()
		if len(got) != 0 || at != place || e != want {
			t.Errorf("%s: %v, %d, %d and not %d, %d", what, got, at, e, place, want)
		}
	}
}

// isText asks for a text, a place and an error.
func isText(t *testing.T, what, want string, place int, err api.Errno) func(got string, at int, e api.Errno) {
	return func(got string, at int, e api.Errno) {
		t.Helper()
		if got != want || at != place || e != err {
			t.Errorf("%s: %q, %d, %d and not %q, %d, %d", what, got, at, e, want, place, err)
		}
	}
}

// isVocab asks for just this vocabulary, and no error.
func isVocab(t *testing.T, what string, want api.Vocab) func(got api.Vocab, e api.Errno) {
	return func(got api.Vocab, e api.Errno) {
		t.Helper()
		if !slices.Equal(got.Texts, want.Texts) || !slices.Equal(got.Merges, want.Merges) || e != api.OK {
			t.Errorf("%s: %q, %v, %d and not %q, %v", what, got.Texts, got.Merges, e, want.Texts, want.Merges)
		}
	}
}

// failsAll asks for an error, and for no vocabulary beside it.
func failsAll(t *testing.T, what string, want api.Errno) func(got api.Vocab, e api.Errno) {
	return func(got api.Vocab, e api.Errno) {
		t.Helper()
		if len(got.Texts) != 0 || len(got.Merges) != 0 || e != want {
			t.Errorf("%s: %v, %d and not %d", what, got, e, want)
		}
	}
}

// right asks whether a vocabulary is.
func right(t *testing.T, v api.Vocab) api.Vocab {
	t.Helper()
	if at, e := vocab.Check(v); at != 0 || e != api.OK {
		t.Fatal("Check", v, at, e)
	}
	return v
}

// spread is numbers from 0 to less than a bound, in no order that the eye could tell, always the same ones.
type spread uint64

func (s *spread) next() uint64 {
	*s = *s*6364136223846793005 + 1442695040888963407
	return uint64(*s >> 11)
}

func (s *spread) below(bound int) int { return int(s.next() % uint64(bound)) }

// text is a text of n of some bytes.
func (s *spread) text(n int, bytes string) string {
	l := make([]byte, n)
	for i := range l {
		l[i] = bytes[s.below(len(bytes))]
	}
	return string(l)
}

// shuffled is a list in another order.
func shuffled[T any](s *spread, l []T) []T {
	l = slices.Clone(l)
	for i := range l {
		j := i + s.below(len(l)-i)
		l[i], l[j] = l[j], l[i]
	}
	return l
}

// vocab is a right vocabulary of some bytes and of at most more texts beside them, in any order, with at most so many merges in any order.
func (s *spread) vocab(bytes string, more, merges int) api.Vocab {
	var l []string
	for i := range len(bytes) {
		l = append(l, bytes[i:i+1])
	}
	for range more {
		if text := l[s.below(len(l))] + l[s.below(len(l))]; len(text) <= api.MaxTokenText && !slices.Contains(l, text) {
			l = append(l, text)
		}
	}
	v := of(append(texts(""), shuffled(s, l)...))
	for left, a := range v.Texts {
		for right, b := range v.Texts {
			if out := slices.Index(v.Texts, a+b); a != "" && b != "" && out > 0 {
				v.Merges = append(v.Merges, api.Merge{Left: left, Right: right, Out: out})
			}
		}
	}
	v.Merges = shuffled(s, v.Merges)
	v.Merges = v.Merges[:min(merges, len(v.Merges))]
	return v
}

// checkOf is Check by the chapter's words.
func checkOf(v api.Vocab) (int, api.Errno) {
	if len(v.Texts) > 512 {
		return 512, api.ErrTexts
	}
	for i, s := range v.Texts {
		if i == 0 && s != "" || i > 0 && s == "" || len(s) > 64 || slices.Contains(v.Texts[:i], s) {
			return i, api.ErrTexts
		}
	}
	if len(v.Texts) < 2 {
		return len(v.Texts), api.ErrTexts
	}
	if len(v.Merges) > 1024 {
		return 1024, api.ErrMerge
	}
	for i, m := range v.Merges {
		for _, token := range tokens(m.Left, m.Right, m.Out) {
			if token <= 0 || token >= len(v.Texts) {
				return i, api.ErrMerge
			}
		}
		again := slices.ContainsFunc(v.Merges[:i], func(o api.Merge) bool { return o.Left == m.Left && o.Right == m.Right })
		if again || v.Texts[m.Out] != v.Texts[m.Left]+v.Texts[m.Right] {
			return i, api.ErrMerge
		}
	}
	return 0, api.OK
}

// bytesOf is the bytes of a text as tokens.
func bytesOf(v api.Vocab, text string) []int {
	var l []int
	for i := range len(text) {
		l = append(l, slices.Index(v.Texts, text[i:i+1]))
	}
	return l
}

// sideBySide is the first place at which two tokens stand side by side, -1 if there is none.
func sideBySide(row []int, left, right int) int {
	for i := 1; i < len(row); i++ {
		if row[i-1] == left && row[i] == right {
			return i - 1
		}
	}
	return -1
}

// encodeOf is Encode by the chapter's words, of a text whose bytes are all said.
func encodeOf(v api.Vocab, text string) []int {
	row := bytesOf(v, text)
	for changed := true; changed; {
		changed = false
		for _, m := range v.Merges {
			if i := sideBySide(row, m.Left, m.Right); i >= 0 {
				row = slices.Replace(row, i, i+2, m.Out)
				changed = true
				break
			}
		}
	}
	return row
}

// trainOf is Train by the chapter's words, of arguments that may be, and the rows at the end.
func trainOf(l []string, size int) (api.Vocab, [][]int) {
	all := []byte(strings.Join(l, ""))
	slices.Sort(all)
	v := of(texts(""))
	for _, b := range slices.Compact(all) {
		v.Texts = append(v.Texts, string([]byte{b}))
	}
	rows := make([][]int, len(l))
	for i, s := range l {
		rows[i] = bytesOf(v, s)
	}
	for len(v.Texts) < size && len(v.Merges) < 1024 {
		m, ok := commonestOf(v, rows)
		if !ok {
			break
		}
		m.Out = len(v.Texts)
		v.Texts = append(v.Texts, v.Texts[m.Left]+v.Texts[m.Right])
		v.Merges = append(v.Merges, m)
		for i := range rows {
			for at := sideBySide(rows[i], m.Left, m.Right); at >= 0; at = sideBySide(rows[i], m.Left, m.Right) {
				rows[i] = slices.Replace(rows[i], at, at+2, m.Out)
			}
		}
	}
	return v, rows
}

// commonestOf is the pair of rows that is learned next, by the chapter's words.
func commonestOf(v api.Vocab, rows [][]int) (api.Merge, bool) {
	counts := map[api.Merge]int{}
	for _, row := range rows {
		for i := 1; i < len(row); i++ {
			counts[api.Merge{Left: row[i-1], Right: row[i]}]++
		}
	}
	var best api.Merge
	most := 0
	for m, n := range counts {
		text := v.Texts[m.Left] + v.Texts[m.Right]
		if len(text) > 64 || slices.Contains(v.Texts, text) || n < 2 {
			continue
		}
		lesser := m.Left < best.Left || m.Left == best.Left && m.Right < best.Right
		if n > most || n == most && lesser {
			best, most = m, n
		}
	}
	return best, most > 0
}

// longestOf is Longest by the chapter's words; of a text that it does not cut, the place where it stops.
func longestOf(v api.Vocab, text string) (row []int, at int, ok bool) {
	for at < len(text) {
		best := 0
		for token, s := range v.Texts {
			if strings.HasPrefix(text[at:], s) && len(s) > len(v.Texts[best]) {
				best = token
			}
		}
		if best == 0 {
			return nil, at, false
		}
		row = append(row, best)
		at += len(v.Texts[best])
	}
	return row, 0, true
}

// rowsOf is all rows of tokens other than the end that say a beginning of text, with how many bytes each one says.
func rowsOf(v api.Vocab, text string, row []int, at int, tell func(row []int, at int)) {
	tell(row, at)
	for token, s := range v.Texts {
		if s != "" && strings.HasPrefix(text[at:], s) {
			rowsOf(v, text, append(slices.Clone(row), token), at+len(s), tell)
		}
	}
}

// fewestOf is Fewest by the chapter's words; of a text that no row says, how much of it one does.
func fewestOf(v api.Vocab, text string) (best []int, at int, ok bool) {
	far := 0
	rowsOf(v, text, nil, 0, func(row []int, at int) {
		far = max(far, at)
		if at < len(text) {
			return
		}
		if !ok || len(row) < len(best) || len(row) == len(best) && slices.Compare(row, best) < 0 {
			best, ok = row, true
		}
	})
	if !ok {
		return nil, far, false
	}
	return best, 0, true
}

// toldOf is a text told, by the words of chapter 30.
func toldOf(text string) string {
	told := ""
	for _, b := range []byte(text) {
		switch {
		case b == '"' || b == '\\':
			told += `\` + string(rune(b))
		case b >= 32 && b <= 126:
			told += string(rune(b))
		case b == 10:
			told += `\n`
		case b == 13:
			told += `\r`
		case b == 9:
			told += `\t`
		default:
			told += fmt.Sprintf(`\x%02x`, b)
		}
	}
	return `"` + told + `"`
}

// printOf is Print by the chapter's words, of a right vocabulary.
func printOf(v api.Vocab) string {
	s := ""
	for _, text := range v.Texts[1:] {
		s += "token " + toldOf(text) + "\n"
	}
	for _, m := range v.Merges {
		s += fmt.Sprintf("merge %d %d %d\n", m.Left, m.Right, m.Out)
	}
	return s
}

var (
	isTokenLine = regexp.MustCompile(`^token "((?:[ !#-\[\]-~]|\\["\\nrt]|\\x(?:0[0-8bcef]|1[0-9a-f]|7f|[89a-f][0-9a-f]))*)"$`)
	isMergeLine = regexp.MustCompile(`^merge (0|[1-9][0-9]{0,8}) (0|[1-9][0-9]{0,8}) (0|[1-9][0-9]{0,8})$`)
)

// parseOf is Parse by the chapter's words.
func parseOf(s string) (api.Vocab, int, api.Errno) {
	v := of(texts(""))
	lines := strings.SplitAfter(s, "\n")
	for number, line := range lines {
		if line == "" {
			continue // behind the last byte 10
		}
		line, whole := strings.CutSuffix(line, "\n")
		token, merge := isTokenLine.FindStringSubmatch(line), isMergeLine.FindStringSubmatch(line)
		switch {
		case whole && token != nil && len(v.Merges) == 0:
			text, err := strconv.Unquote(`"` + token[1] + `"`)
			if err != nil {
				panic(err)
			}
			v.Texts = append(v.Texts, text)
		case whole && merge != nil:
			var m api.Merge
			fmt.Sscan(strings.Join(merge[1:], " "), &m.Left, &m.Right, &m.Out)
			v.Merges = append(v.Merges, m)
		default:
			return api.Vocab{}, number, api.ErrVocabLine
		}
	}
	if at, e := checkOf(v); e != api.OK {
		return api.Vocab{}, at, e
	}
	return v, 0, api.OK
}
