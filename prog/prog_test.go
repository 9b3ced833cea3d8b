package prog

import (
	"fmt"
	"math"
	"slices"
	"strings"
	"testing"

	"gatewicket/api"
)

// setOf are the bytes of s.
func setOf(s string) api.Set {
	var set api.Set
	for i := range len(s) {
		set[s[i]>>6] |= 1 << (s[i] & 63)
	}
	return set
}

func inst(kind int) api.Inst { return api.Inst{Kind: kind} }

func byteIn(s string) api.Inst { return api.Inst{Kind: api.IByte, Set: setOf(s)} }

func split(a, b int) api.Inst { return api.Inst{Kind: api.ISplit, A: a, B: b} }

func jump(a int) api.Inst { return api.Inst{Kind: api.IJump, A: a} }

func match() api.Inst { return inst(api.IMatch) }

func list(p ...api.Inst) []api.Inst { return p }

// many is n times the instruction, and an IMatch.
func many(n int, in api.Inst) []api.Inst {
	return append(slices.Repeat(list(in), n), match())
}

// show is the beginning of p, in a short form.
func show(p []api.Inst) string {
	var b strings.Builder
	for i, in := range p {
		if i == 40 {
			return fmt.Sprintf("%s and more, %d in all", b.String(), len(p))
		}
		fmt.Fprintf(&b, "%d:%d,%d,%d%s ", i, in.Kind, in.A, in.B, showSet(in.Set))
	}
	return b.String()
}

func showSet(set api.Set) string {
	if set == (api.Set{}) {
		return ""
	}
	return fmt.Sprintf("%x", set)
}

// picker makes a row of numbers below what it is asked for, mixed, but the same each time.
func picker(seed uint32) func(int) int {
	return func(below int) int {
		seed = seed*1664525 + 1013904223
		return int(seed>>16) % below
	}
}

// plainCheck is P20's Check as it is told.
func plainCheck(p []api.Inst) api.Errno {
	isNumber := func(n int) bool { return n >= 0 && n <= len(p)-1 }
	if len(p) > 400 {
		return api.ErrLarge
	}
	if len(p) == 0 {
		return api.ErrArg
	}
	for _, in := range p {
		if !slices.Contains([]int{api.IByte, api.ISplit, api.IJump, api.IBegin, api.IEnd, api.IMatch}, in.Kind) {
			return api.ErrArg
		}
		if (in.Kind == api.ISplit || in.Kind == api.IJump) && !isNumber(in.A) || in.Kind == api.ISplit && !isNumber(in.B) {
			return api.ErrArg
		}
	}
	if last := p[len(p)-1].Kind; last == api.IByte || last == api.IBegin || last == api.IEnd {
		return api.ErrArg
	}
	return api.OK
}

type listCase struct {
	p    []api.Inst
	want api.Errno
}

func goodLists() []listCase {
	full := api.Set{math.MaxUint64, math.MaxUint64, math.MaxUint64, math.MaxUint64}
	var good []listCase
	for _, p := range [][]api.Inst{
		list(match()), list(jump(0)), list(split(0, 0)), list(split(1, 0), match()), list(jump(1), match()), list(match(), jump(0)), list(match(), split(0, 1)),
		list(byteIn("a"), match()), list(inst(api.IBegin), match()), list(inst(api.IEnd), match()), list(byteIn(""), match()), list(match(), match()), list(byteIn("a"), jump(0)),
		// What isn't asked for may be anything.
		list(api.Inst{Kind: api.IByte, A: -1, B: 99}, api.Inst{Kind: api.IMatch, A: math.MinInt, B: math.MaxInt, Set: full}),
		list(api.Inst{Kind: api.IBegin, A: -1, B: 99, Set: full}, api.Inst{Kind: api.IEnd, A: 2, B: -2, Set: full}, api.Inst{Kind: api.IJump, A: 2, B: -1, Set: full}),
		list(api.Inst{Kind: api.ISplit, A: 1, Set: full}, match()),
		many(398, byteIn("a")), many(399, byteIn("a")), many(399, split(399, 0)), many(399, jump(399)), many(399, inst(api.IEnd)),
	} {
		good = append(good, listCase{p, api.OK})
	}
	return good
}

func wrongLists() []listCase {
	wrong := []listCase{{nil, api.ErrArg}, {list(), api.ErrArg}}
	for _, p := range [][]api.Inst{
		list(byteIn("a")), list(byteIn("")), list(inst(api.IBegin)), list(inst(api.IEnd)), list(match(), byteIn("a")), list(match(), inst(api.IBegin)), list(match(), inst(api.IEnd)),
		slices.Repeat(list(byteIn("a")), 400), append(many(398, match()), inst(api.IEnd)),
	} {
		wrong = append(wrong, listCase{p, api.ErrArg})
	}
	for _, kind := range []int{math.MinInt, -1, 0, 7, 8, math.MaxInt} {
		wrong = append(wrong, listCase{list(inst(kind)), api.ErrArg}, listCase{list(inst(kind), match()), api.ErrArg}, listCase{list(match(), inst(kind), match()), api.ErrArg}, listCase{many(399, inst(kind)), api.ErrArg})
	}
	for _, at := range []int{math.MinInt, -1, 3, 4, 400, math.MaxInt} {
		wrong = append(wrong, listCase{list(match(), jump(at), match()), api.ErrArg}, listCase{list(split(at, 0), match(), match()), api.ErrArg}, listCase{list(match(), match(), split(2, at)), api.ErrArg}, listCase{list(split(at, at), match(), match()), api.ErrArg})
	}
	wrong = append(wrong, listCase{many(399, jump(400)), api.ErrArg}, listCase{many(399, split(0, 400)), api.ErrArg}, listCase{append(many(398, match()), split(400, 0)), api.ErrArg})
	// Too many are told ahead of all else.
	for _, in := range []api.Inst{byteIn("a"), match(), jump(0), jump(-1), inst(0), inst(99), split(401, 0)} {
		wrong = append(wrong, listCase{many(400, in), api.ErrLarge}, listCase{slices.Repeat(list(in), 401), api.ErrLarge}, listCase{many(100000, in), api.ErrLarge})
	}
	return wrong
}

func TestCheck(t *testing.T) {
	for _, c := range append(goodLists(), wrongLists()...) {
		if e := Check(c.p); e != c.want {
			t.Errorf("Check(%s) = %d; want %d", show(c.p), e, c.want)
		}
		if e := plainCheck(c.p); e != c.want {
			t.Errorf("plainCheck(%s) = %d; want %d", show(c.p), e, c.want)
		}
	}
}

// insts are instructions of all kinds, and of two that are none, with A and B from first to last.
func insts(first, last int) []api.Inst {
	var all []api.Inst
	for kind := 0; kind <= 7; kind++ {
		for a := first; a <= last; a++ {
			for b := first; b <= last; b++ {
				all = append(all, api.Inst{Kind: kind, A: a, B: b})
			}
		}
	}
	return all
}

func TestCheckOfAllSmallOnes(t *testing.T) {
	told := map[api.Errno]int{}
	check := func(p ...api.Inst) {
		want := plainCheck(p)
		told[want]++
		if e := Check(p); e != want {
			t.Fatalf("Check(%s) = %d; want %d", show(p), e, want)
		}
	}
	all := insts(-1, 3)
	for _, a := range all {
		check(a)
		for _, b := range all {
			check(a, b)
		}
	}
	for _, a := range all {
		for _, b := range insts(0, 2) {
			check(a, b, match())
			check(match(), a, b)
			check(b, match(), a)
		}
	}
	if len(told) != 2 {
		t.Errorf("only these were told: %v", told)
	}
}

// Each one of 400 instructions is looked at.
func TestCheckOfEachInstruction(t *testing.T) {
	p := many(399, match())
	for i := range p {
		for _, c := range []listCase{{list(inst(0)), api.ErrArg}, {list(jump(400)), api.ErrArg}, {list(split(0, -1)), api.ErrArg}, {list(split(-1, 0)), api.ErrArg}, {list(jump(399)), api.OK}, {list(split(399, 0)), api.OK}} {
			p[i] = c.p[0]
			if e := Check(p); e != c.want {
				t.Errorf("%d: Check(%s) = %d; want %d", i, show(c.p), e, c.want)
			}
		}
		p[i] = match()
	}
}
