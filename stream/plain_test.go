package stream_test

import (
	"encoding/json"
	"regexp"
	"slices"
	"strings"
	"testing"

	"herald/api"
	"herald/stream"
)

const sign = "\xef\xbf\xbd" // in the place of a byte that is part of no character

// texts is a list of texts.
func texts(l ...string) []string { return l }

// spread is numbers from 0 to less than a bound, in no order that the eye could tell, always the same ones.
type spread uint64

func (s *spread) next() uint64 {
	*s = *s*6364136223846793005 + 1442695040888963407
	return uint64(*s >> 11)
}

func (s *spread) below(bound int) int { return int(s.next() % uint64(bound)) }

// text is n of some texts, one behind the other.
func (s *spread) text(n int, of ...string) string {
	var text strings.Builder
	for range n {
		text.WriteString(of[s.below(len(of))])
	}
	return text.String()
}

// cut is a text cut into pieces of at most so many bytes, some of them empty.
func (s *spread) cut(text string, most int) []string {
	var pieces []string
	for text != "" {
		n := min(s.below(most+1), len(text))
		pieces = append(pieces, text[:n])
		text = text[n:]
	}
	return pieces
}

// forms is what the bytes of a character may be, from the least to the greatest each.
var forms = [][][2]byte{
	{{0, 127}},
	{{194, 223}, {128, 191}},
	{{224, 224}, {160, 191}, {128, 191}},
	{{225, 236}, {128, 191}, {128, 191}},
	{{238, 239}, {128, 191}, {128, 191}},
	{{237, 237}, {128, 159}, {128, 191}},
	{{240, 240}, {144, 191}, {128, 191}, {128, 191}},
	{{241, 243}, {128, 191}, {128, 191}, {128, 191}},
	{{244, 244}, {128, 143}, {128, 191}, {128, 191}},
}

// within tells whether the first bytes of a text may be those of a form, as many as both have.
func within(s string, form [][2]byte) bool {
	for i := range min(len(s), len(form)) {
		if s[i] < form[i][0] || s[i] > form[i][1] {
			return false
		}
	}
	return true
}

// characterOf is how many bytes the character has that a text begins with; 0, if it begins with none.
func characterOf(s string) int {
	for _, form := range forms {
		if len(s) >= len(form) && within(s, form) {
			return len(form)
		}
	}
	return 0
}

// halfOf tells whether a text is a half character.
func halfOf(s string) bool {
	return s != "" && slices.ContainsFunc(forms, func(form [][2]byte) bool { return len(s) < len(form) && within(s, form) })
}

// cleanOf is Clean by the chapter's words.
func cleanOf(s string) string {
	var clean strings.Builder
	for s != "" {
		n := characterOf(s)
		if n == 0 {
			clean.WriteString(sign)
			s = s[1:]
			continue
		}
		clean.WriteString(s[:n])
		s = s[n:]
	}
	return clean.String()
}

// newOf is what New answers to stop texts by the chapter's words.
func newOf(stops []string) api.Errno {
	if len(stops) > 16 {
		return api.ErrStops
	}
	for _, s := range stops {
		if len(s) < 1 || len(s) > 64 || cleanOf(s) != s {
			return api.ErrStop
		}
	}
	return api.OK
}

// textOf is the text of a stream to which s was fed, and the place of the stop text that ended it, or -1.
func textOf(stops []string, s string) (string, int) {
	for n := range len(s) + 1 {
		met := -1
		for i, stop := range stops {
			if strings.HasSuffix(s[:n], stop) && (met < 0 || len(stop) > len(stops[met])) {
				met = i
			}
		}
		if met >= 0 {
			return s[:n-len(stops[met])], met
		}
	}
	return s, -1
}

// heldOf is what is held back of a text that no stop text ended.
func heldOf(stops []string, text string) string {
	for i := range len(text) {
		end := text[i:]
		begins := func(stop string) bool { return strings.HasPrefix(stop, end) }
		if halfOf(end) || slices.ContainsFunc(stops, begins) {
			return end
		}
	}
	return ""
}

// quoteOf is Quote by the chapter's words.
func quoteOf(s string) string {
	told := map[byte]string{'"': `\"`, '\\': `\\`, 8: `\b`, 9: `\t`, 10: `\n`, 12: `\f`, 13: `\r`}
	const base16 = "0123456789abcdef"
	quoted, clean := `"`, cleanOf(s)
	for i := range len(clean) {
		b := clean[i]
		if text, ok := told[b]; ok {
			quoted += text
		} else if b < 32 {
			quoted += `\u00` + base16[b/16:b/16+1] + base16[b%16:b%16+1]
		} else {
			quoted += clean[i : i+1]
		}
	}
	return quoted + `"`
}

// aQuoted is what a text of whole characters must be to be a quoted one.
var aQuoted = regexp.MustCompile(`\A"([^"\\\x00-\x1f]|\\["\\/bfnrt]` +
	`|\\u([0-9a-cA-CefEF][0-9a-fA-F]{3}|[dD][0-7][0-9a-fA-F]{2})` +
	`|\\u[dD][89abAB][0-9a-fA-F]{2}\\u[dD][c-fC-F][0-9a-fA-F]{2})*"\z`)

func isQuoted(t string) bool { return cleanOf(t) == t && aQuoted.MatchString(t) }

// rests is what can make a beginning of a quoted text a whole one: one of them can, whatever the beginning is.
func rests() []string {
	l := texts(``, `"`, `""`, `n"`, `0000"`, `000"`, `00"`, `0"`)
	for pair := `00\udc00"`; pair != ""; pair = pair[1:] {
		l = append(l, pair)
	}
	for _, second := range texts("\x80", "\x90", "\xa0") { // each half character goes on with one of them
		l = append(l, second+`"`, second+"\x80\"", second+"\x80\x80\"")
	}
	return l
}

// faultOf is the place that Unquote tells of a text that is no quoted one.
func faultOf(t string) int {
	for i := range len(t) {
		if !slices.ContainsFunc(rests(), func(rest string) bool { return isQuoted(t[:i+1] + rest) }) {
			return i
		}
	}
	return len(t)
}

// unquoteOf is Unquote by the chapter's words. (A quoted text says what a string of JSON says.)
func unquoteOf(t *testing.T, quoted string) (string, int, api.Errno) {
	t.Helper()
	if !isQuoted(quoted) {
		return "", faultOf(quoted), api.ErrQuoted
	}
	var said string
	if err := json.Unmarshal([]byte(quoted), &said); err != nil {
		t.Errorf("%q: %v", quoted, err)
	}
	return said, 0, api.OK
}

// eventOf is Event by the chapter's words.
func eventOf(name, data string) (string, api.Errno) {
	if cleanOf(name) != name || cleanOf(data) != data {
		return "", api.ErrEvent
	}
	for _, b := range []byte(name) {
		if b == 10 || b == 13 {
			return "", api.ErrEvent
		}
	}
	for _, b := range []byte(data) {
		if b == 13 {
			return "", api.ErrEvent
		}
	}
	var lines []string
	if name != "" {
		lines = append(lines, "event: "+name)
	}
	for _, line := range strings.Split(data, "\n") {
		lines = append(lines, "data: "+line)
	}
	return strings.Join(append(lines, ""), "\n") + "\n", api.OK
}

// eventsOf is Events by the chapter's words.
func eventsOf(s string) ([]api.Event, int) {
	lines := strings.SplitAfter(s, "\n")
	var events []api.Event
	var group []string // the lines behind the last empty one
	all, ended := 0, 0
	for _, line := range lines[:len(lines)-1] { // the last one has no byte 10 behind it
		all += len(line)
		if line != "\n" {
			group = append(group, strings.TrimSuffix(line, "\n"))
			continue
		}
		if e, ok := eventOfLines(group); ok {
			events = append(events, e)
		}
		group, ended = nil, all
	}
	return events, ended
}

// eventOfLines is the event of lines, if one of them is of data.
func eventOfLines(lines []string) (api.Event, bool) {
	aLine := regexp.MustCompile(`(?s)\A(event|data): ?(.*)\z`)
	var name string
	var data []string
	for _, line := range lines {
		said := aLine.FindStringSubmatch(line)
		switch {
		case said == nil:
		case said[1] == "event":
			name = said[2]
		default:
			data = append(data, said[2])
		}
	}
	return api.Event{Name: name, Data: strings.Join(data, "\n")}, len(data) > 0
}

// begun is a stream with stop texts that may be.
func begun(t *testing.T, stops ...string) *stream.Stream {
	t.Helper()
	s, e := stream.New(stops)
	if s == nil || e != api.OK {
		t.Fatalf("New(%q): %v, %d", stops, s, e)
	}
	return s
}

// stands asks how a stream stands: what is held back, all that came out, the stop text that was met (-1: none was).
func stands(t *testing.T, s *stream.Stream, held, text string, met int) {
	t.Helper()
	if got := s.Held(); got != held {
		t.Errorf("Held: %q and not %q", got, held)
	}
	if got := s.Text(); got != text {
		t.Errorf("Text: %q and not %q", got, text)
	}
	if at, ok := s.Stopped(); ok != (met >= 0) || at != max(0, met) {
		t.Errorf("Stopped: %d, %v and not %d", at, ok, met)
	}
}

// lets asks what comes out.
func lets(t *testing.T, what, got, want string) {
	t.Helper()
	if got != want {
		t.Errorf("%s: %q and not %q", what, got, want)
	}
}

// feeds feeds pieces to a stream and ends it, and asks by the chapter's words for all that is told meanwhile.
func feeds(t *testing.T, stops, pieces []string) {
	t.Helper()
	s := begun(t, stops...)
	stands(t, s, "", "", -1)
	fed, out := "", ""
	for i, piece := range pieces {
		fed += piece
		text, met := textOf(stops, fed)
		held := ""
		if met < 0 {
			held = heldOf(stops, text)
		}
		all := cleanOf(text[:len(text)-len(held)])
		lets(t, "Feed", s.Feed(piece), all[len(out):])
		out = all
		stands(t, s, held, all, met)
		if t.Failed() {
			t.Fatalf("stops %q, pieces %q", stops, pieces[:i+1])
		}
	}
	text, met := textOf(stops, fed)
	all := cleanOf(text)
	lets(t, "End", s.End(), all[len(out):])
	for range 2 {
		stands(t, s, "", all, met)
		lets(t, "Feed behind the end", s.Feed("more"), "")
		lets(t, "End behind the end", s.End(), "")
	}
	if t.Failed() {
		t.Fatalf("stops %q, pieces %q", stops, pieces)
	}
}
