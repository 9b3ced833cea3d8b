package rex

import (
	"strings"

	"gatewicket/api"
)

const (
	signs     = `()[]|*+?.^$-\` // what a byte that stands for itself is not
	hexDigits = "0123456789abcdef"
	noByte    = `[^\x00-\xff]`
)

func plain(c byte) bool { return 33 <= c && c <= 126 && !isSign(c) }

func isSign(c byte) bool { return strings.IndexByte(signs, c) >= 0 }

// Print: the text of r (P18).
func Print(r api.Rex) (string, api.Errno) {
	if e := Check(r); e != api.OK {
		return "", e
	}
	return string(appendRex(nil, r)), api.OK
}

func appendRex(b []byte, r api.Rex) []byte {
	switch r.Kind {
	case api.RNone:
		return append(b, noByte...)
	case api.RBegin:
		return append(b, '^')
	case api.REnd:
		return append(b, '$')
	case api.RByte:
		return appendSet(b, r.Set)
	case api.RStar:
		return append(appendKid(b, r, 0), '*')
	case api.RCat:
		return appendKid(appendKid(b, r, 0), r, 1)
	case api.RAlt:
		return appendKid(append(appendKid(b, r, 0), '|'), r, 1)
	}
	return b
}

func appendKid(b []byte, r api.Rex, i int) []byte {
	kid := r.Kids[i]
	if !bracketed(r.Kind, i, kid.Kind) {
		return appendRex(b, kid)
	}
	return append(appendRex(append(b, '('), kid), ')')
}

// bracketed is whether Kid i, of kind kid, would be read otherwise without
// brackets: as a Kid of another node, or not at all.
func bracketed(kind, i, kid int) bool {
	switch kind {
	case api.RStar:
		return kid == api.REmpty || kid == api.RCat || kid == api.RAlt || kid == api.RStar
	case api.RCat:
		return kid == api.REmpty || kid == api.RAlt || kid == api.RCat && i == 1
	}
	return kid == api.RAlt && i == 1
}

func appendSet(b []byte, set api.Set) []byte {
	n := size(set)
	switch {
	case n == 1:
		return appendItems(b, set)
	case set == allButNewline():
		return append(b, '.')
	case n > allBytes/2 && n < allBytes:
		return append(appendItems(append(b, '[', '^'), others(set)), ']')
	}
	return append(appendItems(append(b, '['), set), ']')
}

func appendItems(b []byte, set api.Set) []byte {
	for first := 0; first < allBytes; first++ {
		if !has(set, byte(first)) {
			continue
		}
		last := first
		for last+1 < allBytes && has(set, byte(last+1)) {
			last++
		}
		b = appendItem(b, byte(first), byte(last))
		first = last
	}
	return b
}

func appendItem(b []byte, first, last byte) []byte {
	b = appendChar(b, first)
	if first == last {
		return b
	}
	if last-first > 1 {
		b = append(b, '-')
	}
	return appendChar(b, last)
}

func appendChar(b []byte, c byte) []byte {
	switch {
	case c == '\n':
		return append(b, `\n`...)
	case c == '\t':
		return append(b, `\t`...)
	case c == '\r':
		return append(b, `\r`...)
	case isSign(c):
		return append(b, '\\', c)
	case !plain(c):
		return append(b, '\\', 'x', hexDigits[c>>4], hexDigits[c&15])
	}
	return append(b, c)
}
