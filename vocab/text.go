package vocab

import (
	"strconv"
	"strings"

	"herald/api"
)

const (
	digits     = "0123456789abcdef"
	mostDigits = 9 // of a merge's numbers
)

// Print is a vocabulary as a text.
func Print(v api.Vocab) (string, api.Errno) {
	if _, e := Check(v); e != api.OK {
		return "", e
	}
	var lines strings.Builder
	for _, s := range v.Texts[1:] {
		lines.WriteString(tokenLine(s))
		lines.WriteByte('\n')
	}
	for _, m := range v.Merges {
		lines.WriteString(mergeLine(m))
		lines.WriteByte('\n')
	}
	return lines.String(), api.OK
}

// tokenLine is the line of a token, without its end.
func tokenLine(text string) string { return "token " + quoted(text) }

// mergeLine is the line of a merge, without its end.
func mergeLine(m api.Merge) string {
	return "merge " + strconv.Itoa(m.Left) + " " + strconv.Itoa(m.Right) + " " + strconv.Itoa(m.Out)
}

// quoted is a text told.
func quoted(text string) string {
	l := []byte{'"'}
	for i := range len(text) {
		switch b := text[i]; {
		case b == '"' || b == '\\':
			l = append(l, '\\', b)
		case b == '\n':
			l = append(l, '\\', 'n')
		case b == '\r':
			l = append(l, '\\', 'r')
		case b == '\t':
			l = append(l, '\\', 't')
		case b < ' ' || b > '~':
			l = append(l, '\\', 'x', digits[b>>4], digits[b&15])
		default:
			l = append(l, b)
		}
	}
	return string(append(l, '"'))
}

// Parse is the vocabulary of a text.
func Parse(s string) (api.Vocab, int, api.Errno) {
	v := api.Vocab{Texts: []string{""}}
	for number := 0; s != ""; number++ {
		line, rest, isWhole := strings.Cut(s, "\n")
		if !isWhole || !takeLine(&v, line) {
			return api.Vocab{}, number, api.ErrVocabLine
		}
		s = rest
	}
	if place, e := Check(v); e != api.OK {
		return api.Vocab{}, place, e
	}
	return v, 0, api.OK
}

// takeLine adds what a line tells; false, if it can't stand behind the lines that were taken.
func takeLine(v *api.Vocab, line string) bool {
	if m, ok := mergeOf(line); ok {
		v.Merges = append(v.Merges, m)
		return true
	}
	text := textOf(line)
	if tokenLine(text) != line || len(v.Merges) > 0 {
		return false
	}
	v.Texts = append(v.Texts, text)
	return true
}

// mergeOf is the merge of a line, if it is one's.
func mergeOf(line string) (api.Merge, bool) {
	var numbers [3]int
	words := strings.SplitN(line, " ", len(numbers)+2) // the last one of too many has all the others
	if len(words) != len(numbers)+1 {
		return api.Merge{}, false
	}
	for i, w := range words[1:] {
		n, err := strconv.Atoi(w)
		if err != nil || n < 0 || len(w) > mostDigits {
			return api.Merge{}, false
		}
		numbers[i] = n
	}
	m := api.Merge{Left: numbers[0], Right: numbers[1], Out: numbers[2]}
	return m, mergeLine(m) == line // so with no other word ahead, and no sign or 0 ahead of a number
}

// textOf is the text of a token's line; of a line that is none it is some text, whose line is another one.
func textOf(line string) string {
	line = strings.TrimSuffix(strings.TrimPrefix(line, `token "`), `"`)
	var l []byte
	for i := 0; i < len(line); i++ {
		if line[i] != '\\' || i+1 == len(line) {
			l = append(l, line[i])
			continue
		}
		i++
		switch line[i] {
		case 'n':
			l = append(l, '\n')
		case 'r':
			l = append(l, '\r')
		case 't':
			l = append(l, '\t')
		case 'x':
			end := min(i+3, len(line))
			b, _ := strconv.ParseUint(line[i+1:end], 16, 8) // of what are no digits another line is made
			l = append(l, byte(b))
			i = end - 1
		default:
			l = append(l, line[i])
		}
	}
	return string(l)
}
