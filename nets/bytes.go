package nets

import (
	"strings"

	"gatewicket/api"
)

const (
	dash     = "-"
	wordBits = 64
)

// Bytes: the set of which s is the text (P22).
func Bytes(s string) (api.Set, api.Errno) {
	var set api.Set
	for text := range strings.SplitSeq(s, comma) {
		first, last, ok := ends(text)
		if !ok {
			return api.Set{}, api.ErrSyntax
		}
		set = with(set, first, last)
	}
	return set, api.OK
}

// ends are the first and the last byte of a range.
func ends(s string) (int, int, bool) {
	text, tail, two := strings.Cut(s, dash)
	first, ok := number(text, mostByte)
	last := first
	if ok && two {
		last, ok = number(tail, mostByte)
	}
	return first, last, ok && first <= last
}

func with(set api.Set, first, last int) api.Set {
	for c := first; c <= last; c++ {
		set[c/wordBits] |= 1 << (c % wordBits)
	}
	return set
}
