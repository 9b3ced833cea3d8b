package pipe

import (
	"strings"

	"gatewicket/api"
)

const (
	noWords = "-" // a pipe without transformations
	comma   = ","
)

// words of the transformations, by their Kinds from api.TLower on.
var words = [...]string{"lower", "url", "hex", "base", "html", "path", "squeeze", "nonull", "trim", "length", "cmd"}

// Print: the text of the pipe l (P12).
func Print(l []int) (string, api.Errno) {
	if e := Check(l); e != api.OK {
		return "", e
	}
	if len(l) == 0 {
		return noWords, api.OK
	}
	var list []string
	for _, kind := range l {
		list = append(list, words[kind-api.TLower])
	}
	return strings.Join(list, comma), api.OK
}

// Parse: the pipe of which s is the text (P12).
func Parse(s string) ([]int, api.Errno) {
	// Too many are too many, whatever words they are, so they are counted
	// ahead of being read.
	if strings.Count(s, comma) >= api.MaxPipe {
		return nil, api.ErrLarge
	}
	if s == noWords {
		return nil, api.OK
	}
	var l []int
	for _, word := range strings.Split(s, comma) {
		kind, ok := kindOf(word)
		if !ok {
			return nil, api.ErrSyntax
		}
		l = append(l, kind)
	}
	return l, api.OK
}

func kindOf(word string) (int, bool) {
	for i, w := range words {
		if w == word {
			return api.TLower + i, true
		}
	}
	return 0, false
}
