package prog

import (
	"regexp"
	"slices"
	"strings"
	"testing"
	"time"

	"gatewicket/api"
	"gatewicket/rex"
)

// spot: an instruction and a place of a text.
type spot struct{ at, place int }

// goes is P20's GOES as it is told: where p goes from a spot in one step.
func goes(p []api.Inst, s string, from spot) []spot {
	next := spot{from.at + 1, from.place}
	switch in := p[from.at]; in.Kind {
	case api.IByte:
		if from.place < len(s) && strings.Contains(bytesOf(in.Set), s[from.place:from.place+1]) {
			return []spot{{from.at + 1, from.place + 1}}
		}
	case api.ISplit:
		return []spot{{in.A, from.place}, {in.B, from.place}}
	case api.IJump:
		return []spot{{in.A, from.place}}
	case api.IBegin:
		if from.place == 0 {
			return []spot{next}
		}
	case api.IEnd:
		if from.place == len(s) {
			return []spot{next}
		}
	}
	return nil
}

func bytesOf(set api.Set) string {
	var b []byte
	for c := range 256 {
		if set[c/64]&(1<<(c%64)) != 0 {
			b = append(b, byte(c))
		}
	}
	return string(b)
}

// longest is the last place at which an IMatch is come to from instruction 0 at a place, or -1.
func longest(p []api.Inst, s string, from int) int {
	end := -1
	seen := make([]bool, len(p)*(len(s)+1))
	todo := []spot{{0, from}}
	for len(todo) > 0 {
		here := todo[0]
		todo = todo[1:]
		if number := here.place*len(p) + here.at; !seen[number] {
			seen[number] = true
			todo = append(todo, goes(p, s, here)...)
			if p[here.at].Kind == api.IMatch {
				end = max(end, here.place)
			}
		}
	}
	return end
}

func plainFind(p []api.Inst, s string) (api.Span, bool) {
	for from := range len(s) + 1 {
		if to := longest(p, s, from); to >= 0 {
			return api.Span{From: from, To: to}, true
		}
	}
	return api.Span{}, false
}

func checkFind(t *testing.T, p []api.Inst, s string, want api.Span, is bool) {
	t.Helper()
	if got, found, e := Find(p, s); got != want || found != is || e != api.OK {
		t.Fatalf("Find(%s, %.40q) = %v, %v, %d; want %v, %v", show(p), s, got, found, e, want, is)
	}
	if some, e := Some(p, s); some != is || e != api.OK {
		t.Fatalf("Some(%s, %.40q) = %v, %d; want %v", show(p), s, some, e, is)
	}
}

func made(t *testing.T, text string) []api.Inst {
	t.Helper()
	r, at, e := rex.Parse(text)
	if e != api.OK {
		t.Fatalf("rex.Parse(%q) = %d, %d", text, at, e)
	}
	p, e := Make(r)
	if e != api.OK {
		t.Fatalf("Make(%q) = %d", text, e)
	}
	return p
}

func TestFindOfExpressions(t *testing.T) {
	for _, c := range []struct {
		r, s     string
		from, to int
		is       bool
	}{
		{"ab*", "xabb", 1, 4, true}, {"", "", 0, 0, true}, {"", "abc", 0, 0, true}, {"a", "", 0, 0, false}, {"a", "b", 0, 0, false}, {"a", "ba", 1, 2, true}, {"a", "aa", 0, 1, true}, {"a+", "baa", 1, 3, true},
		{"a|ab", "ab", 0, 2, true}, {"ab|a", "ab", 0, 2, true}, {"a|", "ba", 0, 0, true}, {"(a|ab)(c|bcd)", "abcd", 0, 4, true}, {"abcd|bc", "abcx", 1, 3, true}, {"abcd|bc", "abcd", 0, 4, true}, {"abcde|bc|c", "abcd", 1, 3, true},
		{"bc|abcdef", "abcdef", 0, 6, true}, {"b|c|abcd$", "abcd", 0, 4, true}, {"b|c|abcd$", "abcdx", 1, 2, true}, {"b(cd)?|c|abx", "abcd", 1, 4, true},
		{"a*", "baaa", 0, 0, true}, {"(ab)*", "ababa", 0, 4, true}, {"(a*)*", "aaab", 0, 3, true}, {"(a|b)*c", "abacab", 0, 4, true}, {"(a?)*b", "aab", 0, 3, true}, {"(^a)*b", "aab", 2, 3, true}, {"(^a)*b", "ab", 0, 2, true}, {"a(b|$)", "aa", 1, 2, true},
		{"^b", "ab", 0, 0, false}, {"^a", "ab", 0, 1, true}, {"b$", "bb", 1, 2, true}, {"^$", "", 0, 0, true}, {"^$", "a", 0, 0, false}, {"$", "abc", 3, 3, true}, {"$^", "", 0, 0, true}, {"$^", "a", 0, 0, false}, {"a^b", "ab", 0, 0, false}, {"a$b", "ab", 0, 0, false},
		{"a$", "a\n", 0, 0, false}, {"^a", "\na", 0, 0, false}, {".", "\n", 0, 0, false}, {".", "\x00", 0, 1, true}, {".", "\xff", 0, 1, true}, {"[^a]", "\n", 0, 1, true}, {"[\\x80-\\xff]*", "\xc3\xbfa", 0, 2, true}, {"\\x3f\\x40\\x7f\\x80\\xbf\\xc0", "?@\x7f\x80\xbf\xc0", 0, 6, true},
	} {
		checkFind(t, made(t, c.r), c.s, api.Span{From: c.from, To: c.to}, c.is)
	}
}

// Lists that no expression has.
func TestFindOfOtherLists(t *testing.T) {
	for _, c := range []struct {
		p        []api.Inst
		s        string
		from, to int
		is       bool
	}{
		{list(jump(0), match()), "a", 0, 0, false}, {list(jump(0)), "", 0, 0, false}, {list(split(0, 0)), "a", 0, 0, false}, {list(split(0, 1), match()), "a", 0, 0, true}, {list(split(1, 0), jump(0)), "a", 0, 0, false},
		{list(match(), match()), "ab", 0, 0, true}, {list(match(), byteIn("a"), match()), "a", 0, 0, true}, {list(jump(2), match(), byteIn("b"), jump(1)), "ab", 1, 2, true},
		{list(jump(3), byteIn("a"), match(), split(1, 2)), "ba", 0, 0, true}, {list(byteIn("a"), split(0, 2), match()), "baaab", 1, 4, true}, {list(byteIn("a"), split(2, 0), match()), "baaab", 1, 4, true},
		{list(inst(api.IEnd), inst(api.IBegin), match()), "", 0, 0, true}, {list(inst(api.IEnd), inst(api.IBegin), match()), "a", 0, 0, false}, {list(inst(api.IEnd), match()), "ab", 2, 2, true}, {list(byteIn("a"), inst(api.IBegin), match()), "a", 0, 0, false},
		// Two ends: a short one, and a longer one that is come to from the same place.
		{list(split(1, 3), byteIn("a"), match(), byteIn("a"), byteIn("b"), match()), "ab", 0, 2, true}, {list(split(1, 4), byteIn("a"), byteIn("b"), match(), byteIn("a"), match()), "ab", 0, 2, true}, {list(split(1, 4), byteIn("a"), byteIn("b"), match(), byteIn("a"), match()), "ac", 0, 1, true},
		// What an instruction has beside its own means nothing.
		{list(api.Inst{Kind: api.IByte, A: 5, B: -1, Set: setOf("a")}, api.Inst{Kind: api.IMatch, A: 9, B: 9, Set: setOf("x")}), "ba", 1, 2, true},
		{list(api.Inst{Kind: api.IBegin, A: 5, Set: setOf("a")}, api.Inst{Kind: api.IJump, A: 2, B: 9}, match()), "ba", 0, 0, true},
		{list(byteIn(""), match()), "a", 0, 0, false},
	} {
		checkFind(t, c.p, c.s, api.Span{From: c.from, To: c.to}, c.is)
	}
}

// textsOf are all texts of at most so many of these signs.
func textsOf(signs string, most int) []string {
	texts := []string{""}
	for from := 0; most > 0; most-- {
		to := len(texts)
		for _, s := range texts[from:to] {
			for i := range len(signs) {
				texts = append(texts, s+signs[i:i+1])
			}
		}
		from = to
	}
	return texts
}

// fitting are instructions of all kinds for a list of n.
func fitting(n int) []api.Inst {
	all := list(byteIn(""), byteIn("a"), byteIn("ab"), inst(api.IBegin), inst(api.IEnd), match())
	for a := range n {
		all = append(all, jump(a))
		for b := range n {
			all = append(all, split(a, b))
		}
	}
	return all
}

// lists are all lists of n of these instructions.
func lists(n int, of []api.Inst) [][]api.Inst {
	if n == 0 {
		return [][]api.Inst{nil}
	}
	var all [][]api.Inst
	for _, p := range lists(n-1, of) {
		for _, in := range of {
			all = append(all, append(slices.Clone(p), in))
		}
	}
	return all
}

func TestFindOfAllSmallLists(t *testing.T) {
	texts := textsOf("ab", 3)
	check := func(p []api.Inst) {
		if plainCheck(p) != api.OK {
			return
		}
		for _, s := range texts {
			want, is := plainFind(p, s)
			checkFind(t, p, s, want, is)
		}
	}
	for n := 1; n <= 3; n++ {
		for _, p := range lists(n, fitting(n)) {
			check(p)
		}
	}
	for _, p := range lists(3, fitting(4)) {
		check(append(p, match()))
	}
}

// anyList is a mixed list of n instructions that Check lets pass.
func anyList(pick func(int) int, n int) []api.Inst {
	p := make([]api.Inst, n)
	for i := range p {
		switch pick(12) {
		case 0, 1, 2:
			p[i] = split(pick(n), min(n-1, i+1))
		case 3:
			p[i] = split(pick(n), pick(n))
		case 4:
			p[i] = jump(pick(n))
		case 5:
			p[i] = inst(api.IBegin + pick(3))
		default:
			p[i] = byteIn([]string{"a", "b", "ab", "c", "abc", "\xff\na"}[pick(6)])
		}
	}
	if plainCheck(p) != api.OK {
		p[n-1] = match()
	}
	return p
}

func anyText(pick func(int) int, n int) string {
	s := make([]byte, n)
	for i := range s {
		s[i] = "aaabbc\n\xff"[pick(8)]
	}
	return string(s)
}

func TestFindOfMixedLists(t *testing.T) {
	pick := picker(2)
	found := 0
	for range 20000 {
		p, s := anyList(pick, 1+pick(20)), anyText(pick, pick(14))
		want, is := plainFind(p, s)
		checkFind(t, p, s, want, is)
		if is && want.From > 0 && want.To > want.From+1 {
			found++
		}
	}
	for range 60 {
		p, s := anyList(pick, 1+pick(400)), anyText(pick, pick(60))
		want, is := plainFind(p, s)
		checkFind(t, p, s, want, is)
	}
	if found < 200 {
		t.Errorf("only %d spans are of any length behind the first place", found)
	}
}

// A machine finds what an expression means.
func TestFindAsRexFinds(t *testing.T) {
	check := func(r api.Rex, s string) {
		p, e := Make(r)
		want, is, rexErr := rex.Find(r, s)
		if e != api.OK || rexErr != api.OK {
			t.Fatalf("Make = %d, rex.Find = %d", e, rexErr)
		}
		checkFind(t, p, s, want, is)
	}
	texts := textsOf("ab", 4)
	for n := 1; n <= 4; n++ {
		for _, r := range small(n) {
			for _, s := range texts {
				check(r, s)
			}
		}
	}
	pick := picker(3)
	for range 3000 {
		if r := mixed(pick, 1+pick(80)); rex.Check(r) == api.OK {
			check(r, anyText(pick, pick(40)))
			check(r, anyText(pick, pick(301)))
		}
	}
}

// The library's expressions, set to the longest, find the same in texts of
// bytes below 128, longer ones than rex takes.
func TestFindAsTheLibraryFinds(t *testing.T) {
	pick := picker(4)
	for _, text := range []string{"a+b", "(ab|ba)+c", "(a|b)*cc", "a(a|b)(a|b)(a|b)c", "c(a|b)*$", "^(a|b)*", "(a*b*c)+$", "aab(c|a+b)", "abababab", "(aa)+(bb)+c|ccc+"} {
		p, library := made(t, text), regexp.MustCompile(text)
		library.Longest()
		for range 20 {
			s := make([]byte, pick(8193))
			for i := range s {
				s[i] = "aabbc"[pick(5)]
			}
			want, at := api.Span{}, library.FindIndex(s)
			if at != nil {
				want = api.Span{From: at[0], To: at[1]}
			}
			checkFind(t, p, string(s), want, at != nil)
		}
	}
}

func TestFindAtEachPlace(t *testing.T) {
	a, tail := made(t, "a"), made(t, "ax*")
	for _, n := range []int{0, 1, 2, 3, 63, 64, 65, 300, 301, 8191, 8192} {
		s := strings.Repeat("x", n)
		checkFind(t, a, s, api.Span{}, false)
		checkFind(t, made(t, "$"), s, api.Span{From: n, To: n}, true)
		checkFind(t, made(t, "x*"), s, api.Span{To: n}, true)
		for at := 0; at < n; at += 1 + n/9 {
			with := s[:at] + "a" + s[at+1:]
			checkFind(t, a, with, api.Span{From: at, To: at + 1}, true)
			checkFind(t, tail, with, api.Span{From: at, To: n}, true)
		}
		if n > 0 {
			checkFind(t, a, s[1:]+"a", api.Span{From: n - 1, To: n}, true)
		}
	}
}

func TestFindOfEachByte(t *testing.T) {
	for c := range 256 {
		p := list(byteIn(string([]byte{byte(c)})), match())
		for d := range 256 {
			want := api.Span{}
			if c == d {
				want.To = 1
			}
			checkFind(t, p, string([]byte{byte(d)}), want, c == d)
		}
	}
}

func TestFindRefuses(t *testing.T) {
	for _, c := range append(goodLists(), wrongLists()...) {
		for _, n := range []int{0, 1, 8192, 8193, 100000} {
			want := c.want
			if want == api.OK && n > 8192 {
				want = api.ErrLarge
			}
			s := strings.Repeat("a", n)
			span, is, e := Find(c.p, s)
			if e != want || e != api.OK && (is || span != api.Span{}) {
				t.Errorf("Find(%s, %d bytes) = %v, %v, %d; want %d", show(c.p), n, span, is, e, want)
			}
			some, e := Some(c.p, s)
			if e != want || e != api.OK && some {
				t.Errorf("Some(%s, %d bytes) = %v, %d; want %d", show(c.p), n, some, e, want)
			}
		}
	}
}

// Gone from each place anew, or by each way anew, these would take for ever.
func TestFindOfManyWays(t *testing.T) {
	start := time.Now()
	long := strings.Repeat("a", 8192)
	for _, p := range [][]api.Inst{
		made(t, "(a|a)*(a|a)*(a*)*((a|a)*)*b"), made(t, "((((a*)*)*)*)*b"), made(t, "(a|aa|aaa)*b"), made(t, "(a?)*(a?)*(a?)*b"),
		append(slices.Repeat(list(byteIn("a")), 398), byteIn("b"), match()), everySplit(400),
	} {
		checkFind(t, p, long, api.Span{}, false)
	}
	if took := time.Since(start); took > 20*time.Second {
		t.Errorf("it took %v", took)
	}
}

// everySplit is a list of n in which all is come to at each place, and nothing is found.
func everySplit(n int) []api.Inst {
	p := make([]api.Inst, n)
	for i := range p {
		p[i] = split((i+1)%n, (i*7)%n)
		if i%3 == 1 && i+1 < n {
			p[i] = byteIn("a")
		}
	}
	return p
}
