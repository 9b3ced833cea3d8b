package head

import (
	"slices"
	"strings"

	"gatewicket/api"
	"gatewicket/octet"
)

// Parse: the head of which all of s is the text (P24).
func Parse(s string) (api.Head, api.Errno) {
	if len(s) > api.MaxHead {
		return api.Head{}, api.ErrHead
	}
	// All lines are read ahead of the check: a line that is none is told
	// ahead of one that is too long.
	h, ok := read(s)
	if !ok {
		return api.Head{}, api.ErrForm
	}
	if e := Check(h); e != api.OK {
		return api.Head{}, e
	}
	return h, api.OK
}

func read(s string) (api.Head, bool) {
	text, ended := strings.CutSuffix(s, headEnd)
	if !ended {
		return api.Head{}, false
	}
	lines := strings.Split(text, lineEnd)
	if slices.ContainsFunc(lines, broken) {
		return api.Head{}, false
	}
	h, ok := readFirst(lines[0])
	if !ok {
		return api.Head{}, false
	}
	for _, line := range lines[1:] {
		f, ok := readField(line)
		if !ok {
			return api.Head{}, false
		}
		h.Fields = append(h.Fields, f)
	}
	return h, true
}

// readFirst reads the first line. Its pieces are copied, as what is answered
// shares no memory with the text (P2).
func readFirst(line string) (api.Head, bool) {
	pieces := strings.Split(line, blank)
	if len(pieces) != 3 || pieces[2] != version {
		return api.Head{}, false
	}
	return api.Head{Method: strings.Clone(pieces[0]), Target: strings.Clone(pieces[1])}, true
}

func readField(line string) (api.Field, bool) {
	name, value, ok := strings.Cut(line, colon)
	if !ok {
		return api.Field{}, false
	}
	return api.Field{Name: strings.Clone(name), Value: octet.Trim(value)}, true
}

// broken: the text has been cut at all pairs of 13 and 10, so that one of them
// that is in a line yet stands alone.
func broken(line string) bool { return strings.ContainsAny(line, lineEnd) }
