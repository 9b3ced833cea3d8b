package rex

import (
	"math/bits"

	"gatewicket/api"
)

// places of a text, its end included: place i is bit i%64 of word i/64.
type places [api.MaxPlain/64 + 1]uint64

func (p *places) add(i int) { p[i/64] |= 1 << (i % 64) }

func (p *places) join(more places) {
	for w := range p {
		p[w] |= more[w]
	}
}

// each goes through the places from the first one on.
func (p places) each(yield func(int) bool) {
	for w, word := range p {
		for ; word != 0; word &= word - 1 {
			if !yield(w*64 + bits.TrailingZeros64(word)) {
				return
			}
		}
	}
}

// last is -1, if there is no place.
func (p places) last() int {
	last := -1
	for i := range p.each {
		last = i
	}
	return last
}

// spans of a text: those from place i on end at the places of item i.
type spans []places

// Find: the span of s that r matches, the first one, and of those the longest (P16).
func Find(r api.Rex, s string) (api.Span, bool, api.Errno) {
	if e := Check(r); e != api.OK {
		return api.Span{}, false, e
	}
	if len(s) > api.MaxPlain {
		return api.Span{}, false, api.ErrLarge
	}
	for from, ends := range matched(r, s) {
		if to := ends.last(); to >= 0 {
			return api.Span{From: from, To: to}, true, api.OK
		}
	}
	return api.Span{}, false, api.OK
}

// matched are all spans of s that r matches. Each node is asked once for all
// of them, as asking it from each place anew takes too long where stars stand
// in stars.
func matched(r api.Rex, s string) spans {
	switch r.Kind {
	case api.REmpty:
		return empties(s, 0, len(s))
	case api.RBegin:
		return empties(s, 0, 0)
	case api.REnd:
		return empties(s, len(s), len(s))
	case api.RByte:
		return bytesOf(r.Set, s)
	case api.RCat:
		return behind(matched(r.Kids[0], s), matched(r.Kids[1], s))
	case api.RAlt:
		return either(matched(r.Kids[0], s), matched(r.Kids[1], s))
	case api.RStar:
		return repeated(matched(r.Kids[0], s))
	}
	return none(s)
}

func none(s string) spans { return make(spans, len(s)+1) }

func empties(s string, first, last int) spans {
	m := none(s)
	for i := first; i <= last; i++ {
		m[i].add(i)
	}
	return m
}

func bytesOf(set api.Set, s string) spans {
	m := none(s)
	for i := range len(s) {
		if has(set, s[i]) {
			m[i].add(i + 1)
		}
	}
	return m
}

func behind(a, b spans) spans {
	m := make(spans, len(a))
	for i, ends := range a {
		for k := range ends.each {
			m[i].join(b[k])
		}
	}
	return m
}

func either(a, b spans) spans {
	m := make(spans, len(a))
	for i := range a {
		m[i] = a[i]
		m[i].join(b[i])
	}
	return m
}

// repeated goes from the end back, as a row of spans from i on goes on at a
// place behind i: one that stays at i leads nowhere else.
func repeated(a spans) spans {
	m := make(spans, len(a))
	for i := len(a) - 1; i >= 0; i-- {
		m[i].add(i)
		for k := range a[i].each {
			m[i].join(m[k])
		}
	}
	return m
}
