package phrase

import (
	"math"
	"slices"
	"strings"
	"testing"

	"gatewicket/api"
)

// row is a tree of so many nodes, each a child of the one ahead of it.
func row(nodes int) []api.Node {
	var t []api.Node
	for i := range nodes {
		t = append(t, api.Node{Byte: 'a', Up: max(i-1, 0)})
	}
	return t
}

// fan is a tree of node 0 and its children with these bytes.
func fan(signs string) []api.Node {
	t := []api.Node{{}}
	for i := range len(signs) {
		t = append(t, api.Node{Byte: signs[i]})
	}
	return t
}

type treeCase struct {
	t     []api.Node
	words int
	want  api.Errno
}

func goodTrees() []treeCase {
	good := []treeCase{
		{fan(""), 0, api.OK}, {fan(""), 30, api.OK}, {fan(""), -1, api.OK}, {fan("a"), math.MinInt, api.OK}, {row(2), 0, api.OK}, {row(399), 1, api.OK}, {row(400), 30, api.OK},
		{fan("ba"), 1, api.OK}, {fan("\x00\xff"), 1, api.OK}, {[]api.Node{{Byte: 'a'}, {Byte: 'a'}}, 1, api.OK},
		{[]api.Node{{Byte: 7, Ends: []int{0, 0}}}, 1, api.OK}, {[]api.Node{{}, {Ends: []int{29, 0, 29, 3}}}, 30, api.OK}, {[]api.Node{{}, {Ends: []int{}}}, 0, api.OK},
		{[]api.Node{{}, {}, {Up: 1}, {Up: 2}}, 0, api.OK}, {[]api.Node{{}, {Byte: 1}, {Byte: 2, Fail: 1}, {Byte: 1, Up: 2, Fail: 2}, {Byte: 2, Up: 1, Fail: 3}}, 0, api.OK},
	}
	for i := 1; i < 400; i += 57 {
		t := row(400)
		t[i].Fail = i - 1
		t[i].Ends = []int{29, 0}
		good = append(good, treeCase{t, 30, api.OK})
	}
	return good
}

func wrongTrees() []treeCase {
	wrong := []treeCase{
		{nil, 0, api.ErrArg}, {[]api.Node{}, 30, api.ErrArg}, {nil, -1, api.ErrArg},
		{nil, 31, api.ErrLarge}, {fan("a"), 31, api.ErrLarge}, {fan("a"), math.MaxInt, api.ErrLarge}, {row(401), 1, api.ErrLarge}, {row(100000), 31, api.ErrLarge}, {make([]api.Node, 401), -1, api.ErrLarge},
		{[]api.Node{{Up: -1, Ends: []int{-1}}}, 31, api.ErrLarge}, {fan("aa"), 31, api.ErrLarge}, {make([]api.Node, 400), 30, api.ErrArg},
		{fan("aa"), 1, api.ErrArg}, {fan("aba"), 1, api.ErrArg}, {fan("\x00\x00"), 1, api.ErrArg}, {append(row(4), api.Node{Byte: 'a', Up: 2}), 1, api.ErrArg}, {append(row(399), api.Node{Byte: 'a'}), 1, api.ErrArg},
		{[]api.Node{{Ends: []int{0}}}, 0, api.ErrArg}, {[]api.Node{{Ends: []int{0}}}, -1, api.ErrArg}, {[]api.Node{{Ends: []int{1}}}, 1, api.ErrArg}, {[]api.Node{{Ends: []int{-1}}}, 1, api.ErrArg},
	}
	for _, n := range []int{-1, math.MinInt, math.MaxInt} {
		for i := range 5 {
			wrong = append(wrong, changed(i, func(node *api.Node) { node.Up = n }), changed(i, func(node *api.Node) { node.Fail = n }))
		}
	}
	for i := range 5 {
		for _, n := range []int{max(i, 1), i + 1, 5} {
			wrong = append(wrong, changed(i, func(node *api.Node) { node.Up = n }), changed(i, func(node *api.Node) { node.Fail = n }))
		}
		for _, ends := range [][]int{{-1}, {3}, {0, 1, 2, 3}, {-1, 0}, {0, 4, 1}, {math.MaxInt}, {math.MinInt}} {
			wrong = append(wrong, changed(i, func(node *api.Node) { node.Ends = ends }))
		}
	}
	return wrong
}

// changed is a tree of five nodes, for three words, with one node made wrong.
func changed(i int, change func(*api.Node)) treeCase {
	t := row(5)
	t[4].Ends = []int{2, 1, 0}
	change(&t[i])
	return treeCase{t, 3, api.ErrArg}
}

func TestCheck(t *testing.T) {
	for _, c := range append(goodTrees(), wrongTrees()...) {
		if e := Check(c.t, c.words); e != c.want {
			t.Errorf("Check(%.200v, %d) = %d; want %d", c.t, c.words, e, c.want)
		}
	}
}

// plainHits goes through s as P14 tells it.
func plainHits(t []api.Node, s string) []api.Hit {
	child := func(at int, c byte) int {
		return slices.IndexFunc(t[1:], func(n api.Node) bool { return n.Up == at && n.Byte == c }) + 1
	}
	var hits []api.Hit
	at := 0
	for i := range len(s) {
		for child(at, s[i]) == 0 && at != 0 {
			at = t[at].Fail
		}
		if to := child(at, s[i]); to != 0 {
			at = to
			for _, word := range t[at].Ends {
				hits = append(hits, api.Hit{Word: word, To: i + 1})
			}
		}
	}
	return hits
}

// plainPlaces are the places at which the words stand in s.
func plainPlaces(words []string, s string) []api.Hit {
	var hits []api.Hit
	for to := range len(s) + 1 {
		for i, word := range words {
			if strings.HasSuffix(s[:to], word) {
				hits = append(hits, api.Hit{Word: i, To: to})
			}
		}
	}
	return hits
}

// pairs lists hits, each by its word and its place.
func pairs(numbers ...int) []api.Hit {
	var hits []api.Hit
	for pair := range slices.Chunk(numbers, 2) {
		hits = append(hits, api.Hit{Word: pair[0], To: pair[1]})
	}
	return hits
}

func checkHits(t *testing.T, tree []api.Node, words int, s string, want []api.Hit) {
	t.Helper()
	if got, e := Hits(tree, words, s); !slices.Equal(got, want) || e != api.OK {
		t.Fatalf("Hits(%.300v, %d, %.60q) = %.200v, %d; want %.200v", tree, words, s, got, e, want)
	}
	if got, e := Some(tree, words, s); got != (len(want) > 0) || e != api.OK {
		t.Fatalf("Some(%.300v, %d, %.60q) = %v, %d; want %v", tree, words, s, got, e, len(want) > 0)
	}
}

func TestHits(t *testing.T) {
	for _, c := range []struct {
		words string
		s     string
		want  []api.Hit
	}{
		{"she he", "ushe", pairs(0, 4, 1, 4)}, {"he she", "ushe", pairs(0, 4, 1, 4)}, {"he she his hers", "ushers", pairs(0, 4, 1, 4, 3, 6)},
		{"a", "", nil}, {"a", "a", pairs(0, 1)}, {"a", "b", nil}, {"a", "A", nil}, {"a", "aa", pairs(0, 1, 0, 2)}, {"a a", "xa", pairs(0, 2, 1, 2)},
		{"aa", "a", nil}, {"aa", "aaaa", pairs(0, 2, 0, 3, 0, 4)}, {"ab", "aab", pairs(0, 3)}, {"he", "hxe", nil}, {"he", "hhe", pairs(0, 3)},
		{"aaa aa a", "aaa", pairs(2, 1, 1, 2, 2, 2, 0, 3, 1, 3, 2, 3)}, {"abcd bc d", "abcabcd", pairs(1, 3, 1, 6, 0, 7, 2, 7)},
		{"abcabd cabc", "abcabcabd", pairs(1, 6, 0, 9)}, {"\x00", "\x00a\x00", pairs(0, 1, 0, 3)}, {"a", "\x00", nil}, {"\x00a", "a\x00\x00a", pairs(0, 4)},
		{"\xff \xc3", "\xc3\xbf\xff", pairs(1, 1, 0, 3)}, {"evil eva", "evevilevev", pairs(0, 6)},
	} {
		words := strings.Split(c.words, " ")
		tree, _ := Make(words)
		checkHits(t, tree, len(words), c.s, c.want)
	}
}

func TestHitsOfAllShortWordsAndTexts(t *testing.T) {
	words, texts := textsOf("ab", 3)[1:], textsOf("ab", 6)
	for i, a := range words {
		for k, b := range words[i:] {
			for _, c := range words[i+k:] {
				list := []string{c, a, b}
				tree, _ := Make(list)
				for _, s := range texts {
					checkHits(t, tree, 3, s, plainPlaces(list, s))
				}
			}
		}
	}
}

// picker makes a row of numbers below what it is asked for, mixed, but the same each time.
func picker(seed uint32) func(int) int {
	return func(below int) int {
		seed = seed*1664525 + 1013904223
		return int(seed>>16) % below
	}
}

func TestHitsOfManyWords(t *testing.T) {
	pick := picker(5)
	text := func(signs string, most int) string {
		b := make([]byte, 1+pick(most))
		for i := range b {
			b[i] = signs[pick(len(signs))]
		}
		return string(b)
	}
	for range 300 {
		var list []string
		for range 1 + pick(30) {
			list = append(list, text("ab\x00\xff"[pick(3):], 5))
		}
		tree, e := Make(list)
		if e != api.OK {
			t.Fatalf("Make(%q) = %d", list, e)
		}
		s := text("ab\x00\xff", 200)
		checkHits(t, tree, len(list), s, plainPlaces(list, s))
	}
}

// Trees that Make would not make are gone through as they are.
func TestHitsOfOtherTrees(t *testing.T) {
	rooted := []api.Node{{Byte: 'x', Ends: []int{0}}, {Byte: 'a', Ends: []int{1}}}
	checkHits(t, rooted, 2, "", nil)
	checkHits(t, rooted, 2, "xyx\x00", nil)
	checkHits(t, rooted, 2, "xax", pairs(1, 2))
	checkHits(t, []api.Node{{Ends: []int{0}}}, 1, "\x00\x00", nil)
	checkHits(t, []api.Node{{}, {Byte: 'a', Ends: []int{2, 0, 2, 1}}}, 3, "ba", pairs(2, 2, 0, 2, 2, 2, 1, 2))
	checkHits(t, fan("ab"), 0, "abab", nil)
	checkHits(t, fan("ab"), -1, "abab", nil)
	// Fail leads from b to a, that is no end of b: ab is found in bb.
	odd := []api.Node{{}, {Byte: 'a'}, {Byte: 'b', Fail: 1}, {Byte: 'b', Up: 1, Fail: 0, Ends: []int{0}}}
	checkHits(t, odd, 1, "bb", pairs(0, 2))
	checkHits(t, odd, 1, "abb", pairs(0, 2))
	checkHits(t, odd, 1, "abbb", pairs(0, 2, 0, 4))
	// The Ends of a Fail that is only gone through are none.
	through := []api.Node{{}, {Byte: 'b', Ends: []int{0}}, {Byte: 'a'}, {Byte: 'b', Up: 2, Fail: 1}, {Byte: 'c', Up: 1, Ends: []int{1}}}
	checkHits(t, through, 2, "abc", pairs(1, 3))
	checkHits(t, through, 2, "abx", nil)
}

func TestHitsOfMixedTrees(t *testing.T) {
	pick := picker(6)
	for range 3000 {
		tree := []api.Node{{Byte: byte(pick(3)), Ends: []int{pick(4)}}}
		for i := 1; i < 12; i++ {
			node := api.Node{Byte: byte(pick(3)), Up: pick(i), Fail: pick(i)}
			for range pick(3) {
				node.Ends = append(node.Ends, pick(4))
			}
			if Check(append(slices.Clone(tree), node), 4) == api.OK {
				tree = append(tree, node)
			} else {
				tree = append(tree, api.Node{Byte: byte(100 + i)})
			}
		}
		s := make([]byte, 30)
		for i := range s {
			s[i] = byte(pick(4))
		}
		checkHits(t, tree, 4, string(s), plainHits(tree, string(s)))
	}
}

func checkHitsErr(t *testing.T, tree []api.Node, words int, s string, want api.Errno) {
	t.Helper()
	if got, e := Hits(tree, words, s); len(got) != 0 || e != want {
		t.Errorf("Hits(%.200v, %d, %d bytes) = %.200v, %d; want %d", tree, words, len(s), got, e, want)
	}
	if got, e := Some(tree, words, s); got || e != want {
		t.Errorf("Some(%.200v, %d, %d bytes) = %v, %d; want %d", tree, words, len(s), got, e, want)
	}
}

func TestHitsRefuse(t *testing.T) {
	for _, c := range wrongTrees() {
		for _, s := range []string{"", "a", strings.Repeat("a", 8192), strings.Repeat("a", 8193)} {
			checkHitsErr(t, c.t, c.words, s, c.want)
		}
	}
	for _, c := range goodTrees() {
		checkHitsErr(t, c.t, c.words, strings.Repeat("a", 8193), api.ErrLarge)
		checkHitsErr(t, c.t, c.words, strings.Repeat("\x00", 100000), api.ErrLarge)
	}
}

func TestHitsOfLargeTexts(t *testing.T) {
	tree, _ := Make([]string{"a", strings.Repeat("a", 40), "b"})
	most := strings.Repeat("a", 8191) + "b"
	got, e := Hits(tree, 3, most)
	if e != api.OK || len(got) != 8191+8191-39+1 || got[len(got)-1] != (api.Hit{Word: 2, To: 8192}) {
		t.Errorf("%d hits, %d", len(got), e)
	}
	checkHits(t, tree, 3, strings.Repeat("x", 8191)+"b", pairs(2, 8192))
	checkHits(t, tree, 3, strings.Repeat("x", 8192), nil)
}

// From the last node of this tree each byte but its own goes by all Fails.
func TestHitsGoByAllFails(t *testing.T) {
	tree := row(400)
	for i := range tree {
		tree[i].Up = 0
		tree[i].Byte = byte(i)
		tree[i].Fail = max(i-1, 0)
		if i > 255 {
			tree[i].Up = i - 1
		}
	}
	tree[1].Ends = []int{0}
	checkHits(t, tree, 1, strings.Repeat("\xff\x01", 4096), plainEven(8192))
}

func plainEven(most int) []api.Hit {
	var hits []api.Hit
	for to := 2; to <= most; to += 2 {
		hits = append(hits, api.Hit{Word: 0, To: to})
	}
	return hits
}

// Some answers at the first hit: all of these would not fit into memory.
func TestSomeMakesNoList(t *testing.T) {
	tree := []api.Node{{}, {Byte: 'a', Ends: make([]int, 4000000)}}
	if got, e := Some(tree, 1, strings.Repeat("a", 8192)); !got || e != api.OK {
		t.Errorf("Some = %v, %d", got, e)
	}
}
