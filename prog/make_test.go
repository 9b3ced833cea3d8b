package prog

import (
	"slices"
	"testing"

	"gatewicket/api"
	"gatewicket/rex"
)

func leaf(kind int) api.Rex { return api.Rex{Kind: kind} }

func cat(a, b api.Rex) api.Rex { return api.Rex{Kind: api.RCat, Kids: []api.Rex{a, b}} }

func alt(a, b api.Rex) api.Rex { return api.Rex{Kind: api.RAlt, Kids: []api.Rex{a, b}} }

func star(a api.Rex) api.Rex { return api.Rex{Kind: api.RStar, Kids: []api.Rex{a}} }

// sign is an RByte of the bytes of s.
func sign(s string) api.Rex { return api.Rex{Kind: api.RByte, Set: setOf(s)} }

// stars is r within so many stars.
func stars(n int, r api.Rex) api.Rex {
	for range n {
		r = star(r)
	}
	return r
}

// nodes is an expression of n nodes of a kind with two Kids, each about as large as the other one.
func nodes(n, kind int) api.Rex {
	switch n {
	case 1:
		return sign("a")
	case 2:
		return star(sign("b"))
	}
	return api.Rex{Kind: kind, Kids: []api.Rex{nodes(n/2, kind), nodes(n-1-n/2, kind)}}
}

// mixed is a mixed expression of n nodes over signs of ab.
func mixed(pick func(int) int, n int) api.Rex {
	switch {
	case n == 1:
		return []api.Rex{sign("a"), sign("b"), sign("ab"), sign("\nb\xff"), leaf(api.REmpty), leaf(api.RBegin), leaf(api.REnd), leaf(api.RNone)}[pick(8)]
	case n == 2 || pick(4) == 0:
		return star(mixed(pick, n-1))
	}
	left := 1 + pick(n-2)
	return api.Rex{Kind: api.RCat + pick(2), Kids: []api.Rex{mixed(pick, left), mixed(pick, n-1-left)}}
}

// small are all expressions of n nodes.
func small(n int) []api.Rex {
	if n == 1 {
		return []api.Rex{leaf(api.RNone), leaf(api.REmpty), sign("a"), sign("ab"), leaf(api.RBegin), leaf(api.REnd)}
	}
	var all []api.Rex
	for _, r := range small(n - 1) {
		all = append(all, star(r))
	}
	for left := 1; left < n-1; left++ {
		for _, a := range small(left) {
			for _, b := range small(n - 1 - left) {
				all = append(all, cat(a, b), alt(a, b))
			}
		}
	}
	return all
}

// codeAt is P19's CODE as it is told, with its first instruction numbered at.
func codeAt(at int, r api.Rex) []api.Inst {
	switch r.Kind {
	case api.RNone:
		return list(byteIn(""))
	case api.RByte:
		return list(api.Inst{Kind: api.IByte, Set: r.Set})
	case api.RBegin:
		return list(inst(api.IBegin))
	case api.REnd:
		return list(inst(api.IEnd))
	case api.RCat:
		first := codeAt(at, r.Kids[0])
		return slices.Concat(first, codeAt(at+len(first), r.Kids[1]))
	case api.RAlt:
		first := codeAt(at+1, r.Kids[0])
		other := at + 1 + len(first) + 1
		second := codeAt(other, r.Kids[1])
		return slices.Concat(list(split(at+1, other)), first, list(jump(other+len(second))), second)
	case api.RStar:
		of := codeAt(at+1, r.Kids[0])
		return slices.Concat(list(split(at+1, at+1+len(of)+1)), of, list(jump(at)))
	}
	return nil
}

func checkMake(t *testing.T, r api.Rex, want []api.Inst) {
	t.Helper()
	got, e := Make(r)
	if e != api.OK || !slices.Equal(got, want) {
		text, _ := rex.Print(r)
		t.Fatalf("Make(%q) = %s, %d; want %s", text, show(got), e, show(want))
	}
	if e := Check(got); e != api.OK {
		t.Fatalf("Check(%s) = %d", show(got), e)
	}
}

func TestMake(t *testing.T) {
	a, b, empty := sign("a"), sign("b"), leaf(api.REmpty)
	for _, c := range []struct {
		r    api.Rex
		want []api.Inst
	}{
		{leaf(api.RNone), list(byteIn(""), match())},
		{empty, list(match())},
		{a, list(byteIn("a"), match())},
		{sign("\x00\xff"), list(byteIn("\x00\xff"), match())},
		{leaf(api.RBegin), list(inst(api.IBegin), match())},
		{leaf(api.REnd), list(inst(api.IEnd), match())},
		{cat(a, b), list(byteIn("a"), byteIn("b"), match())},
		{cat(empty, empty), list(match())},
		{alt(a, b), list(split(1, 3), byteIn("a"), jump(4), byteIn("b"), match())},
		{alt(empty, empty), list(split(1, 2), jump(2), match())},
		{alt(a, empty), list(split(1, 3), byteIn("a"), jump(3), match())},
		{alt(empty, a), list(split(1, 2), jump(3), byteIn("a"), match())},
		{star(a), list(split(1, 3), byteIn("a"), jump(0), match())},
		{star(empty), list(split(1, 2), jump(0), match())},
		{star(star(a)), list(split(1, 5), split(2, 4), byteIn("a"), jump(1), jump(0), match())},
		{cat(a, star(b)), list(byteIn("a"), split(2, 4), byteIn("b"), jump(1), match())},
		{cat(star(a), b), list(split(1, 3), byteIn("a"), jump(0), byteIn("b"), match())},
		{alt(star(a), b), list(split(1, 5), split(2, 4), byteIn("a"), jump(1), jump(6), byteIn("b"), match())},
		{alt(a, alt(b, a)), list(split(1, 3), byteIn("a"), jump(7), split(4, 6), byteIn("b"), jump(7), byteIn("a"), match())},
		{alt(alt(a, b), a), list(split(1, 6), split(2, 4), byteIn("a"), jump(5), byteIn("b"), jump(7), byteIn("a"), match())},
	} {
		checkMake(t, c.r, c.want)
	}
}

func TestMakeOfAllSmallOnes(t *testing.T) {
	for n := 1; n <= 5; n++ {
		for _, r := range small(n) {
			checkMake(t, r, append(codeAt(0, r), match()))
		}
	}
}

func TestMakeOfMixedOnes(t *testing.T) {
	pick := picker(1)
	for range 3000 {
		r := mixed(pick, 1+pick(80))
		if rex.Check(r) == api.OK {
			checkMake(t, r, append(codeAt(0, r), match()))
		}
	}
}

// The longest lists that Make makes are below MaxProg.
func TestMakeAtTheBounds(t *testing.T) {
	for _, r := range []api.Rex{nodes(80, api.RCat), nodes(80, api.RAlt), nodes(79, api.RAlt), stars(19, sign("a")), cat(nodes(60, api.RAlt), stars(18, sign("a")))} {
		if e := rex.Check(r); e != api.OK {
			t.Fatalf("rex.Check = %d", e)
		}
		checkMake(t, r, append(codeAt(0, r), match()))
	}
}

func TestMakeRefuses(t *testing.T) {
	a, bad := sign("a"), leaf(0)
	for _, c := range []struct {
		r    api.Rex
		want api.Errno
	}{
		{nodes(81, api.RCat), api.ErrLarge}, {nodes(500, api.RAlt), api.ErrLarge}, {stars(20, a), api.ErrDeep}, {stars(500, a), api.ErrDeep},
		{api.Rex{}, api.ErrArg}, {leaf(9), api.ErrArg}, {leaf(-1), api.ErrArg}, {leaf(api.RByte), api.ErrArg}, {leaf(api.RCat), api.ErrArg}, {leaf(api.RAlt), api.ErrArg}, {leaf(api.RStar), api.ErrArg},
		{api.Rex{Kind: api.RCat, Kids: []api.Rex{a}}, api.ErrArg}, {api.Rex{Kind: api.RAlt, Kids: []api.Rex{a, a, a}}, api.ErrArg}, {api.Rex{Kind: api.RStar, Kids: []api.Rex{a, a}}, api.ErrArg},
		{api.Rex{Kind: api.RNone, Set: a.Set}, api.ErrArg}, {api.Rex{Kind: api.REnd, Set: a.Set}, api.ErrArg}, {api.Rex{Kind: api.RByte, Set: a.Set, Kids: []api.Rex{a}}, api.ErrArg},
		{cat(a, bad), api.ErrArg}, {cat(bad, stars(30, a)), api.ErrArg}, {cat(stars(30, a), bad), api.ErrDeep}, {cat(nodes(90, api.RCat), bad), api.ErrLarge},
	} {
		if p, e := Make(c.r); p != nil || e != c.want {
			t.Errorf("Make(%v) = %s, %d; want %d", c.r.Kind, show(p), e, c.want)
		}
	}
}
