package prog

import "gatewicket/api"

// way: an instruction that is come to, and the place at which the way began.
type way struct{ at, from int }

// machine goes all ways through p at once, a place of s after the other, and
// never back.
type machine struct {
	p []api.Inst
	s string
	// seen is, of each instruction, 1 and the place at which it was last come
	// to: again at that place it would lead nowhere new, or in a circle.
	seen [api.MaxProg]int
	// now and next are ways at a place and at the next one. Those that began
	// first stand first, so that they are first at each instruction: a later
	// one that comes to it has the same ends and can't be better.
	now, next []way
	span      api.Span
	found     bool
}

// Find: the span of s that p comes through, the first one, and of those the longest (P20).
func Find(p []api.Inst, s string) (api.Span, bool, api.Errno) {
	if e := ready(p, s); e != api.OK {
		return api.Span{}, false, e
	}
	m := machine{p: p, s: s}
	for place := 0; place <= len(s) && !m.done(); place++ {
		m.step(place)
	}
	return m.span, m.found, api.OK
}

// Some: whether Find finds a span (P20).
func Some(p []api.Inst, s string) (bool, api.Errno) {
	if e := ready(p, s); e != api.OK {
		return false, e
	}
	m := machine{p: p, s: s}
	for place := 0; place <= len(s) && !m.found; place++ {
		m.step(place)
	}
	return m.found, api.OK
}

func ready(p []api.Inst, s string) api.Errno {
	if e := Check(p); e != api.OK {
		return e
	}
	if len(s) > api.MaxText {
		return api.ErrLarge
	}
	return api.OK
}

// done: a span is found, and no way is left that might be better.
func (m *machine) done() bool { return m.found && len(m.next) == 0 }

func (m *machine) step(place int) {
	m.now, m.next = m.next, m.now[:0]
	for _, w := range m.now {
		if m.found && w.from > m.span.From {
			return
		}
		m.follow(w.at, w.from, place)
	}
	if !m.found {
		m.follow(0, place, place)
	}
}

// follow goes on from an instruction as far as that is at the same place.
func (m *machine) follow(at, from, place int) {
	if m.seen[at] == place+1 {
		return
	}
	m.seen[at] = place + 1
	switch in := m.p[at]; in.Kind {
	case api.IByte:
		if place < len(m.s) && has(in.Set, m.s[place]) {
			m.next = append(m.next, way{at + 1, from})
		}
	case api.ISplit:
		m.follow(in.A, from, place)
		m.follow(in.B, from, place)
	case api.IJump:
		m.follow(in.A, from, place)
	case api.IBegin:
		if place == 0 {
			m.follow(at+1, from, place)
		}
	case api.IEnd:
		if place == len(m.s) {
			m.follow(at+1, from, place)
		}
	case api.IMatch:
		// As no way is gone that began behind the span found, this one
		// begins ahead of it, or is longer.
		m.span, m.found = api.Span{From: from, To: place}, true
	}
}

func has(set api.Set, c byte) bool { return set[c/64]>>(c%64)&1 == 1 }
