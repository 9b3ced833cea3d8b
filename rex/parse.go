package rex

import (
	"slices"
	"strings"

	"gatewicket/api"
)

// reader of an expression's text. When one of its methods tells an error, at
// is where.
type reader struct {
	s    string
	at   int
	open int
}

// Parse: the expression of which s is the text, or where and why it is none (P17).
func Parse(s string) (api.Rex, int, api.Errno) {
	if len(s) > api.MaxSource {
		return api.Rex{}, 0, api.ErrLarge
	}
	p := &reader{s: s}
	r, e := p.alt()
	if e == api.OK && p.at < len(s) {
		e = api.ErrSyntax
	}
	if e == api.OK {
		e = Check(r)
	}
	if e != api.OK {
		return api.Rex{}, p.at, e
	}
	return apart(r), 0, api.OK
}

// apart gives each node a list of its own, as + lays down what is ahead of it
// twice with the same lists. Ahead of Check that would be too many to copy.
func apart(r api.Rex) api.Rex {
	r.Kids = slices.Clone(r.Kids)
	for i, kid := range r.Kids {
		r.Kids[i] = apart(kid)
	}
	return r
}

func node(kind int, kids ...api.Rex) api.Rex { return api.Rex{Kind: kind, Kids: kids} }

func byteOf(set api.Set) api.Rex { return api.Rex{Kind: api.RByte, Set: set} }

// peek is 0 at the end: a byte that can't stand anywhere.
func (p *reader) peek() byte {
	if p.at == len(p.s) {
		return 0
	}
	return p.s[p.at]
}

func (p *reader) take(c byte) bool {
	if p.peek() != c {
		return false
	}
	p.at++
	return true
}

func (p *reader) alt() (api.Rex, api.Errno) {
	r, e := p.row()
	for e == api.OK && p.take('|') {
		var more api.Rex
		more, e = p.row()
		r = node(api.RAlt, r, more)
	}
	return r, e
}

func (p *reader) row() (api.Rex, api.Errno) {
	if p.rowEnds() {
		return node(api.REmpty), api.OK
	}
	r, e := p.piece()
	for e == api.OK && !p.rowEnds() {
		var more api.Rex
		more, e = p.piece()
		r = node(api.RCat, r, more)
	}
	return r, e
}

func (p *reader) rowEnds() bool {
	return p.at == len(p.s) || p.peek() == '|' || p.peek() == ')'
}

func (p *reader) piece() (api.Rex, api.Errno) {
	r, e := p.atom()
	for e == api.OK {
		switch {
		case p.take('*'):
			r = node(api.RStar, r)
		case p.take('+'):
			r = node(api.RCat, r, node(api.RStar, r))
		case p.take('?'):
			r = node(api.RAlt, r, node(api.REmpty))
		default:
			return r, api.OK
		}
	}
	return r, e
}

func (p *reader) atom() (api.Rex, api.Errno) {
	switch {
	case p.peek() == '(':
		return p.group()
	case p.take('['):
		return p.items()
	case p.take('.'):
		return byteOf(allButNewline()), api.OK
	case p.take('^'):
		return node(api.RBegin), api.OK
	case p.take('$'):
		return node(api.REnd), api.OK
	}
	if set, ok := p.class(); ok {
		return byteOf(set), api.OK
	}
	c, e := p.char()
	return byteOf(only(c)), e
}

func (p *reader) group() (api.Rex, api.Errno) {
	if p.open == api.MaxDeep {
		return api.Rex{}, api.ErrDeep
	}
	p.at++
	p.open++
	r, e := p.alt()
	if e == api.OK && !p.take(')') {
		e = api.ErrSyntax
	}
	p.open--
	return r, e
}

// items reads what is behind a [, up to its ].
func (p *reader) items() (api.Rex, api.Errno) {
	not := p.take('^')
	set, e := p.item()
	for e == api.OK && p.peek() != ']' {
		var more api.Set
		more, e = p.item()
		set = union(set, more)
	}
	if not {
		set = others(set)
	}
	if e == api.OK && size(set) == 0 {
		e = api.ErrSyntax
	}
	if e == api.OK {
		p.at++
	}
	return byteOf(set), e
}

func (p *reader) item() (api.Set, api.Errno) {
	if set, ok := p.class(); ok {
		return set, api.OK
	}
	first, e := p.char()
	if e != api.OK || !p.take('-') {
		return only(first), e
	}
	start := p.at
	last, e := p.char()
	if e == api.OK && first > last {
		p.at = start
		e = api.ErrSyntax
	}
	return with(api.Set{}, first, last), e
}

// class reads \d, \w or \s, if it stands here.
func (p *reader) class() (api.Set, bool) {
	var set api.Set
	switch rest := p.s[p.at:]; {
	case strings.HasPrefix(rest, `\d`):
		set = digits()
	case strings.HasPrefix(rest, `\w`):
		set = wordSigns()
	case strings.HasPrefix(rest, `\s`):
		set = blanks()
	default:
		return set, false
	}
	p.at += 2
	return set, true
}

func (p *reader) char() (byte, api.Errno) {
	if p.take('\\') {
		return p.escaped()
	}
	c := p.peek()
	if !plain(c) {
		return 0, api.ErrSyntax
	}
	p.at++
	return c, api.OK
}

// escaped reads what is behind a \.
func (p *reader) escaped() (byte, api.Errno) {
	c := p.peek()
	switch {
	case p.take('x'):
		return p.hexByte()
	case c == 'n':
		c = '\n'
	case c == 't':
		c = '\t'
	case c == 'r':
		c = '\r'
	case !isSign(c):
		return 0, api.ErrSyntax
	}
	p.at++
	return c, api.OK
}

func (p *reader) hexByte() (byte, api.Errno) {
	n := 0
	for range 2 {
		digit := strings.IndexByte(hexDigits, p.peek())
		if digit < 0 {
			return 0, api.ErrSyntax
		}
		n = n<<4 | digit
		p.at++
	}
	return byte(n), api.OK
}
