package rex

import (
	"regexp"
	"strings"
	"testing"
	"time"

	"gatewicket/api"
)

// matches is P16 as it is told: whether r matches the span of s from i to j.
func matches(r api.Rex, s string, i, j int) bool {
	switch r.Kind {
	case api.REmpty:
		return i == j
	case api.RByte:
		return j == i+1 && r.Set[s[i]/64]&(1<<(s[i]%64)) != 0
	case api.RCat:
		return cut(s, i, j, func(k int) bool { return matches(r.Kids[0], s, i, k) && matches(r.Kids[1], s, k, j) })
	case api.RAlt:
		return matches(r.Kids[0], s, i, j) || matches(r.Kids[1], s, i, j)
	case api.RStar:
		// An empty span of the Kid leads no further.
		return i == j || cut(s, i+1, j, func(k int) bool { return matches(r.Kids[0], s, i, k) && matches(r, s, k, j) })
	case api.RBegin:
		return i == 0 && j == 0
	case api.REnd:
		return i == len(s) && j == len(s)
	}
	return false
}

func cut(s string, i, j int, at func(int) bool) bool {
	for k := i; k <= j; k++ {
		if at(k) {
			return true
		}
	}
	return false
}

func plainFind(r api.Rex, s string) (api.Span, bool) {
	for i := range len(s) + 1 {
		for j := len(s); j >= i; j-- {
			if matches(r, s, i, j) {
				return api.Span{From: i, To: j}, true
			}
		}
	}
	return api.Span{}, false
}

func checkFind(t *testing.T, r api.Rex, s string, want api.Span, is bool) {
	t.Helper()
	if got, found, e := Find(r, s); got != want || found != is || e != api.OK {
		t.Fatalf("Find(%s, %q) = %v, %v, %d; want %v, %v", show(r), s, got, found, e, want, is)
	}
}

func TestFind(t *testing.T) {
	for _, c := range []struct {
		r, s     string
		from, to int
		is       bool
	}{
		{"ab*", "xabb", 1, 4, true}, {"", "", 0, 0, true}, {"", "abc", 0, 0, true}, {"a", "", 0, 0, false}, {"a", "b", 0, 0, false}, {"a", "A", 0, 0, false}, {"a", "ba", 1, 2, true}, {"a", "aa", 0, 1, true},
		{"b|ab", "ab", 0, 2, true}, {"a|ab", "ab", 0, 2, true}, {"ab|a", "ab", 0, 2, true}, {"a|", "ba", 0, 0, true}, {"(a|ab)(c|bcd)", "abcd", 0, 4, true}, {"(a|ab)(bcd|c)", "abcd", 0, 4, true},
		{"a*", "baaa", 0, 0, true}, {"a+", "baaab", 1, 4, true}, {"(ab)*", "ababa", 0, 4, true}, {"(a*)*", "aaab", 0, 3, true}, {"(a|b)*c", "abacab", 0, 4, true}, {"(a?)*b", "aab", 0, 3, true}, {"(a*b*)*c", "abbac", 0, 5, true},
		{"^b", "ab", 0, 0, false}, {"^a", "ab", 0, 1, true}, {"b$", "bb", 1, 2, true}, {"^$", "", 0, 0, true}, {"^$", "a", 0, 0, false}, {"$", "abc", 3, 3, true}, {"^", "abc", 0, 0, true}, {"$^", "", 0, 0, true}, {"$^", "a", 0, 0, false}, {"a^b", "ab", 0, 0, false}, {"a$b", "ab", 0, 0, false},
		{"(^a)*b", "aab", 2, 3, true}, {"(^a)*b", "ab", 0, 2, true}, {"(^)*a", "ba", 1, 2, true}, {"(a$)*", "aa", 0, 0, true}, {"a($)*", "aa", 0, 1, true}, {"a(b|$)", "aab", 1, 3, true}, {"a(b|$)", "aa", 1, 2, true}, {"^*b", "ab", 1, 2, true}, {"^^a", "a", 0, 1, true}, {"a$$", "ba", 1, 2, true},
		{"a$", "a\n", 0, 0, false}, {"^a", "\na", 0, 0, false}, {".", "\n", 0, 0, false}, {".", "\x00", 0, 1, true}, {".", "\xff", 0, 1, true}, {".+", "a\nbc", 0, 1, true}, {"[^a]", "\n", 0, 1, true},
		{"\\x00", "a\x00", 1, 2, true}, {"\\xff", "\xff", 0, 1, true}, {"[\\x80-\\xff]*", "\xc3\xbfa", 0, 2, true}, {"[^\\x80-\\xff]+", "\xc3\xbfa", 2, 3, true},
	} {
		r, at, e := Parse(c.r)
		if e != api.OK {
			t.Fatalf("Parse(%q) = %d, %d", c.r, at, e)
		}
		checkFind(t, r, c.s, api.Span{From: c.from, To: c.to}, c.is)
	}
}

func TestFindNothingOfRNone(t *testing.T) {
	none := leaf(api.RNone)
	for _, s := range []string{"", "a", "ab"} {
		checkFind(t, none, s, api.Span{}, false)
		checkFind(t, cat(none, sign("a")), s, api.Span{}, false)
		checkFind(t, cat(leaf(api.REmpty), none), s, api.Span{}, false)
		checkFind(t, star(none), s, api.Span{}, true)
	}
	checkFind(t, alt(none, sign("b")), "ab", api.Span{From: 1, To: 2}, true)
	checkFind(t, alt(sign("b"), none), "ab", api.Span{From: 1, To: 2}, true)
	checkFind(t, cat(star(none), sign("b")), "ab", api.Span{From: 1, To: 2}, true)
}

// small are all expressions of n nodes over these leaves.
func small(n int, leaves []api.Rex) []api.Rex {
	if n == 1 {
		return leaves
	}
	var list []api.Rex
	for _, r := range small(n-1, leaves) {
		list = append(list, star(r))
	}
	for left := 1; left < n-1; left++ {
		for _, a := range small(left, leaves) {
			for _, b := range small(n-1-left, leaves) {
				list = append(list, cat(a, b), alt(a, b))
			}
		}
	}
	return list
}

func sixLeaves() []api.Rex {
	return []api.Rex{leaf(api.RNone), leaf(api.REmpty), sign("a"), sign("ab"), leaf(api.RBegin), leaf(api.REnd)}
}

// textsOf are all texts of at most so many of these signs.
func textsOf(signs string, most int) []string {
	texts := []string{""}
	for from := 0; most > 0; most-- {
		to := len(texts)
		for _, s := range texts[from:to] {
			for i := range len(signs) {
				texts = append(texts, s+signs[i:i+1])
			}
		}
		from = to
	}
	return texts
}

func TestFindOfAllSmallOnes(t *testing.T) {
	texts := textsOf("ab", 4)
	for n := 1; n <= 4; n++ {
		for _, r := range small(n, sixLeaves()) {
			for _, s := range texts {
				want, is := plainFind(r, s)
				checkFind(t, r, s, want, is)
			}
		}
	}
	for _, r := range small(5, sixLeaves()[2:5]) {
		for _, s := range texts {
			want, is := plainFind(r, s)
			checkFind(t, r, s, want, is)
		}
	}
}

func TestFindOfMixedOnes(t *testing.T) {
	pick := picker(8)
	for range 4000 {
		r, s := mixed(pick, 1+pick(14)), make([]byte, pick(7))
		for i := range s {
			s[i] = "ab\n\xff"[pick(4)]
		}
		want, is := plainFind(r, string(s))
		checkFind(t, r, string(s), want, is)
	}
}

// The library's expressions, set to the longest, find the same in texts of
// bytes below 128.
func TestFindAsTheLibraryFinds(t *testing.T) {
	pick := picker(9)
	for range 3000 {
		r := mixed(pick, 1+pick(40))
		if Check(r) != api.OK {
			continue
		}
		text, _ := Print(r)
		library := regexp.MustCompile(text)
		library.Longest()
		s := make([]byte, pick(301))
		for i := range s {
			s[i] = "aabb\nc"[pick(6)]
		}
		want, at := api.Span{}, library.FindIndex(s)
		if at != nil {
			want = api.Span{From: at[0], To: at[1]}
		}
		checkFind(t, r, string(s), want, at != nil)
	}
}

func TestFindAtEachPlace(t *testing.T) {
	for n := range 301 {
		s := strings.Repeat("x", n)
		checkFind(t, sign("a"), s, api.Span{}, false)
		checkFind(t, leaf(api.REnd), s, api.Span{From: n, To: n}, true)
		checkFind(t, star(sign("x")), s, api.Span{To: n}, true)
		for at := 0; at < n; at += 1 + n/7 {
			with := s[:at] + "a" + s[at+1:]
			checkFind(t, sign("a"), with, api.Span{From: at, To: at + 1}, true)
			checkFind(t, cat(sign("a"), star(sign("x"))), with, api.Span{From: at, To: n}, true)
		}
	}
}

func TestFindRefuses(t *testing.T) {
	for _, c := range wrongOnes() {
		for _, s := range []string{"", "a", strings.Repeat("a", 300), strings.Repeat("a", 301)} {
			want := c.want
			if want == api.OK && len(s) == 301 {
				want = api.ErrLarge
			}
			got, is, e := Find(c.r, s)
			if e != want || e != api.OK && (is || got != api.Span{}) {
				t.Errorf("Find(%s, %d bytes) = %v, %v, %d; want %d", show(c.r), len(s), got, is, e, want)
			}
		}
	}
	for _, c := range goodOnes() {
		for _, n := range []int{301, 302, 100000} {
			if got, is, e := Find(c.r, strings.Repeat("a", n)); (got != api.Span{}) || is || e != api.ErrLarge {
				t.Errorf("Find(%s, %d bytes) = %v, %v, %d", show(c.r), n, got, is, e)
			}
		}
		if _, _, e := Find(c.r, strings.Repeat("a", 300)); e != api.OK {
			t.Errorf("Find(%s, 300 bytes) = %d", show(c.r), e)
		}
	}
}

// Asked from each place anew, stars in stars would take for ever.
func TestFindOfStarsInStars(t *testing.T) {
	start := time.Now()
	for _, sides := range [][]api.Rex{{sign("b"), sign("a")}, {sign("a"), sign("a")}, {leaf(api.REmpty), sign("a")}, {star(sign("a")), leaf(api.REnd)}} {
		r := sign("a")
		for range 5 {
			r = star(alt(cat(r, sides[0]), sides[1]))
		}
		checkFind(t, cat(r, sign("c")), strings.Repeat("a", 300), api.Span{}, false)
	}
	checkFind(t, cat(nodes(70), sign("c")), strings.Repeat("ab", 150), api.Span{}, false)
	if took := time.Since(start); took > 20*time.Second {
		t.Errorf("it took %v", took)
	}
}
