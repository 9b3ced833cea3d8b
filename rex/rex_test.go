package rex

import (
	"math"
	"slices"
	"strconv"
	"testing"

	"gatewicket/api"
)

func leaf(kind int) api.Rex { return api.Rex{Kind: kind} }

func cat(a, b api.Rex) api.Rex { return api.Rex{Kind: api.RCat, Kids: []api.Rex{a, b}} }

func alt(a, b api.Rex) api.Rex { return api.Rex{Kind: api.RAlt, Kids: []api.Rex{a, b}} }

func star(a api.Rex) api.Rex { return api.Rex{Kind: api.RStar, Kids: []api.Rex{a}} }

// sign is an RByte of the bytes of s.
func sign(s string) api.Rex {
	r := api.Rex{Kind: api.RByte}
	for i := range len(s) {
		r.Set[s[i]>>6] |= 1 << (s[i] & 63)
	}
	return r
}

// span is an RByte of the bytes from first to last.
func span(first, last int) api.Rex {
	var b []byte
	for c := first; c <= last; c++ {
		b = append(b, byte(c))
	}
	return sign(string(b))
}

func same(a, b api.Rex) bool {
	return a.Kind == b.Kind && a.Set == b.Set && slices.EqualFunc(a.Kids, b.Kids, same)
}

// show is the beginning of r, in a short form.
func show(r api.Rex) string {
	b := []byte(strconv.Itoa(r.Kind))
	for c := range 256 {
		if r.Set[c/64]>>(c%64)&1 == 1 {
			b = strconv.AppendQuoteToASCII(b, string([]byte{byte(c)}))
		}
	}
	for _, kid := range r.Kids {
		if len(b) < 300 {
			b = append(append(append(b, '('), show(kid)...), ')')
		}
	}
	return string(b[:min(300, len(b))])
}

// stars is r within so many stars.
func stars(n int, r api.Rex) api.Rex {
	for range n {
		r = star(r)
	}
	return r
}

// nodes is an expression of n nodes, each kid about as large as the other one.
func nodes(n int) api.Rex {
	switch n {
	case 1:
		return sign("a")
	case 2:
		return star(sign("b"))
	}
	return cat(nodes(n/2), nodes(n-1-n/2))
}

// picker makes a row of numbers below what it is asked for, mixed, but the same each time.
func picker(seed uint32) func(int) int {
	return func(below int) int {
		seed = seed*1664525 + 1013904223
		return int(seed>>16) % below
	}
}

// mixed is a mixed expression of n nodes over signs of ab.
func mixed(pick func(int) int, n int) api.Rex {
	switch {
	case n == 1:
		return []api.Rex{sign("a"), sign("b"), sign("ab"), sign("\nb"), span(0, 255), leaf(api.REmpty), leaf(api.RBegin), leaf(api.REnd), leaf(api.RNone)}[pick(9)]
	case n == 2 || pick(4) == 0:
		return star(mixed(pick, n-1))
	}
	left := 1 + pick(n-2)
	return api.Rex{Kind: api.RCat + pick(2), Kids: []api.Rex{mixed(pick, left), mixed(pick, n-1-left)}}
}

type rexCase struct {
	r    api.Rex
	want api.Errno
}

func goodOnes() []rexCase {
	a := sign("a")
	list := []api.Rex{
		leaf(api.RNone), leaf(api.REmpty), leaf(api.RBegin), leaf(api.REnd), a, sign("\x00"), sign("\xff"), span(0, 255),
		cat(a, a), alt(a, a), star(a), stars(3, leaf(api.REmpty)), alt(leaf(api.REmpty), leaf(api.RNone)), star(leaf(api.REnd)), cat(cat(a, a), cat(a, a)),
		{Kind: api.RNone, Kids: []api.Rex{}}, {Kind: api.RByte, Set: a.Set, Kids: []api.Rex{}},
		nodes(79), nodes(80), stars(18, a), stars(19, a), cat(stars(18, a), stars(18, a)), cat(nodes(40), alt(stars(17, a), nodes(20))),
	}
	var good []rexCase
	for _, r := range list {
		good = append(good, rexCase{r, api.OK})
	}
	return good
}

func wrongOnes() []rexCase {
	a := sign("a")
	wrong := []rexCase{
		{nodes(81), api.ErrLarge}, {nodes(82), api.ErrLarge}, {nodes(500), api.ErrLarge},
		{stars(20, a), api.ErrDeep}, {stars(21, a), api.ErrDeep}, {stars(500, a), api.ErrDeep}, {cat(stars(19, a), a), api.ErrDeep}, {cat(a, stars(19, a)), api.ErrDeep},
	}
	for _, kind := range []int{math.MinInt, -1, 0, 9, 10, math.MaxInt} {
		for n := range 4 {
			wrong = append(wrong, rexCase{api.Rex{Kind: kind, Kids: slices.Repeat([]api.Rex{a}, n)}, api.ErrArg}, rexCase{api.Rex{Kind: kind, Set: a.Set, Kids: slices.Repeat([]api.Rex{a}, n)}, api.ErrArg})
		}
	}
	for kind, many := range []int{api.RNone: 0, api.REmpty: 0, api.RByte: 0, api.RCat: 2, api.RAlt: 2, api.RStar: 1, api.RBegin: 0, api.REnd: 0} {
		for n := range 100 {
			r := api.Rex{Kind: kind, Kids: slices.Repeat([]api.Rex{a}, n)}
			if kind == api.RByte {
				r.Set = a.Set
			}
			if kind > 0 && n != many {
				wrong = append(wrong, rexCase{r, api.ErrArg})
			}
		}
		r := api.Rex{Kind: kind, Kids: slices.Repeat([]api.Rex{a}, many)}
		if kind == api.RByte {
			wrong = append(wrong, rexCase{r, api.ErrArg})
			continue
		}
		for _, c := range []byte{0, 'a', 64, 128, 255} {
			r.Set = sign(string([]byte{c})).Set
			wrong = append(wrong, rexCase{r, api.ErrArg})
		}
	}
	return append(wrong, wrongAtMany()...)
}

// wrongAtMany are expressions in which more than one thing is wrong.
func wrongAtMany() []rexCase {
	a, bad := sign("a"), leaf(0)
	wide := api.Rex{Kind: api.RStar, Kids: []api.Rex{a, stars(30, a)}}
	last := func(r api.Rex) api.Rex { return cat(stars(18, a), cat(nodes(58), r)) } // 79 nodes ahead of r
	return []rexCase{
		{cat(bad, a), api.ErrArg}, {cat(a, bad), api.ErrArg}, {star(star(bad)), api.ErrArg}, {alt(a, star(leaf(api.RByte))), api.ErrArg},
		{cat(bad, stars(30, a)), api.ErrArg}, {cat(stars(30, a), bad), api.ErrDeep}, {cat(bad, nodes(90)), api.ErrArg}, {cat(nodes(90), bad), api.ErrLarge},
		{cat(stars(30, a), nodes(90)), api.ErrDeep}, {cat(nodes(90), stars(30, a)), api.ErrLarge},
		{wide, api.ErrArg}, {cat(wide, stars(30, a)), api.ErrArg}, {cat(stars(30, a), wide), api.ErrDeep},
		{api.Rex{Kind: api.RCat, Set: a.Set, Kids: []api.Rex{stars(30, a), a}}, api.ErrArg},
		{stars(18, bad), api.ErrArg}, {stars(19, bad), api.ErrArg}, {stars(20, bad), api.ErrDeep}, {stars(21, bad), api.ErrDeep},
		{last(a), api.OK}, {last(bad), api.ErrArg}, {last(star(a)), api.ErrLarge}, {last(star(bad)), api.ErrLarge}, {last(stars(30, a)), api.ErrLarge}, {last(wide), api.ErrArg},
		{deepAndLarge(58, bad), api.ErrDeep}, {deepAndLarge(59, bad), api.ErrDeep}, {deepAndLarge(60, bad), api.ErrLarge}, {deepAndLarge(60, a), api.ErrLarge},
	}
}

// deepAndLarge has last as a node that is 21 deep, with n and 20 nodes ahead of it.
func deepAndLarge(n int, last api.Rex) api.Rex { return cat(nodes(n), stars(19, last)) }

func TestCheck(t *testing.T) {
	for _, c := range append(goodOnes(), wrongOnes()...) {
		if e := Check(c.r); e != c.want {
			t.Errorf("Check(%s) = %d; want %d", show(c.r), e, c.want)
		}
	}
}

func TestCheckOfListsInThemselves(t *testing.T) {
	one := []api.Rex{{Kind: api.RStar}}
	one[0].Kids = one
	if e := Check(one[0]); e != api.ErrDeep {
		t.Errorf("Check = %d; want %d", e, api.ErrDeep)
	}
	two := []api.Rex{sign("a"), {Kind: api.RCat}}
	two[1].Kids = two
	if e := Check(two[1]); e != api.ErrDeep {
		t.Errorf("Check = %d; want %d", e, api.ErrDeep)
	}
	r := sign("a")
	for range 19 {
		r = cat(r, r)
	}
	if e := Check(r); e != api.ErrLarge {
		t.Errorf("Check = %d; want %d", e, api.ErrLarge)
	}
}

type deepNode struct {
	r    api.Rex
	deep int
}

// listed are the nodes of r, each ahead of its Kids.
func listed(r api.Rex, deep int) []deepNode {
	list := []deepNode{{r, deep}}
	for _, kid := range r.Kids {
		list = append(list, listed(kid, deep+1)...)
	}
	return list
}

// plainCheck is P15 as it is told.
func plainCheck(r api.Rex) api.Errno {
	many := map[int]int{api.RNone: 0, api.REmpty: 0, api.RByte: 0, api.RCat: 2, api.RAlt: 2, api.RStar: 1, api.RBegin: 0, api.REnd: 0}
	for i, n := range listed(r, 1) {
		kids, known := many[n.r.Kind]
		switch {
		case i+1 == 81:
			return api.ErrLarge
		case n.deep > 20:
			return api.ErrDeep
		case !known, len(n.r.Kids) != kids, n.r.Kind == api.RByte && n.r.Set == api.Set{}, n.r.Kind != api.RByte && n.r.Set != api.Set{}:
			return api.ErrArg
		}
	}
	return api.OK
}

// spoiled is r with one thing, at a mixed node, made wrong, or made otherwise.
func spoiled(pick func(int) int, r api.Rex) api.Rex {
	if len(r.Kids) > 0 && pick(4) > 0 {
		kids := slices.Clone(r.Kids)
		i := pick(len(kids))
		kids[i] = spoiled(pick, kids[i])
		r.Kids = kids
		return r
	}
	switch pick(4) {
	case 0:
		r.Kind = pick(11) - 1
	case 1:
		r.Set[pick(4)] ^= 1 << pick(64)
	case 2:
		r.Kids = append(slices.Clone(r.Kids), sign("x"))
	case 3:
		r = stars(pick(20), r)
	}
	return r
}

func TestCheckOfMixedOnes(t *testing.T) {
	pick := picker(7)
	told := map[api.Errno]int{}
	for range 8000 {
		r := mixed(pick, 1+pick(100))
		for range pick(3) {
			r = spoiled(pick, r)
		}
		want := plainCheck(r)
		told[want]++
		if e := Check(r); e != want {
			t.Fatalf("Check(%s) = %d; want %d", show(r), e, want)
		}
	}
	if len(told) != 4 {
		t.Errorf("only these were told: %v", told)
	}
}
