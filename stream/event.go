package stream

import (
	"strings"
	"unicode/utf8"

	"herald/api"
)

const (
	nameField = "event:"
	dataField = "data:"
)

// Event is the lines of an event.
func Event(name, data string) (string, api.Errno) {
	if strings.ContainsAny(name, "\n\r") || strings.Contains(data, "\r") || !utf8.ValidString(name) || !utf8.ValidString(data) {
		return "", api.ErrEvent
	}
	lines := dataField + " " + strings.ReplaceAll(data, "\n", "\n"+dataField+" ") + "\n\n"
	if name != "" {
		lines = nameField + " " + name + "\n" + lines
	}
	return lines, api.OK
}

// Events is the events that a text begins with, and how many bytes of it they are.
func Events(s string) ([]api.Event, int) {
	var (
		events []api.Event
		name   string
		data   []string
		ended  int // the place behind the last empty line
	)
	for at := 0; ; {
		line, _, isWhole := strings.Cut(s[at:], "\n")
		if !isWhole {
			return events, ended
		}
		at += len(line) + 1
		if line == "" {
			if len(data) > 0 {
				events = append(events, api.Event{Name: name, Data: strings.Join(data, "\n")})
			}
			name, data, ended = "", nil, at
		} else if said, ok := saidBy(line, nameField); ok {
			name = said
		} else if said, ok := saidBy(line, dataField); ok {
			data = append(data, said)
		}
	}
}

// saidBy is what a line says, if it is of that field.
func saidBy(line, field string) (string, bool) {
	said, ok := strings.CutPrefix(line, field)
	return strings.TrimPrefix(said, " "), ok
}
