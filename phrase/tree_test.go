package phrase

import (
	"slices"
	"strings"
	"testing"

	"gatewicket/api"
)

// textsOf lists all texts of these bytes with at most so many of them, the empty one first.
func textsOf(signs string, most int) []string {
	all := []string{""}
	for i := 0; i < len(all) && len(all[i]) < most; i++ {
		for k := range len(signs) {
			all = append(all, all[i]+signs[k:k+1])
		}
	}
	return all
}

// beginnings of the words, each once, the shorter ones first, then by their
// bytes: that is, too, by their parents and then by their last byte.
func beginnings(words []string) []string {
	list := []string{""}
	for _, word := range words {
		for size := range len(word) {
			list = append(list, word[:size+1])
		}
	}
	slices.SortFunc(list, func(a, b string) int {
		if len(a) != len(b) {
			return len(a) - len(b)
		}
		return strings.Compare(a, b)
	})
	return slices.Compact(list)
}

// plainTree is the tree as P13 tells it, text by text.
func plainTree(words []string) []api.Node {
	list := beginnings(words)
	t := []api.Node{{}}
	for _, text := range list[1:] {
		last := len(text) - 1
		node := api.Node{Byte: text[last], Up: slices.Index(list, text[:last])}
		for from := 1; ; from++ {
			if node.Fail = slices.Index(list, text[from:]); node.Fail >= 0 {
				break
			}
		}
		for i, word := range words {
			if strings.HasSuffix(text, word) {
				node.Ends = append(node.Ends, i)
			}
		}
		t = append(t, node)
	}
	return t
}

func sameNode(a, b api.Node) bool {
	return a.Byte == b.Byte && a.Up == b.Up && a.Fail == b.Fail && slices.Equal(a.Ends, b.Ends)
}

func node(c byte, up, fail int, ends ...int) api.Node {
	return api.Node{Byte: c, Up: up, Fail: fail, Ends: ends}
}

func checkMake(t *testing.T, words []string, want []api.Node) {
	t.Helper()
	got, e := Make(words)
	if !slices.EqualFunc(got, want, sameNode) || e != api.OK {
		t.Fatalf("Make(%.200q) = %.400v, %d; want %.400v", words, got, e, want)
	}
	if e := Check(got, len(words)); e != api.OK {
		t.Fatalf("Check(Make(%.200q)) = %d", words, e)
	}
}

func TestMake(t *testing.T) {
	for _, c := range []struct {
		words []string
		want  []api.Node
	}{
		{[]string{"a"}, []api.Node{{}, node('a', 0, 0, 0)}},
		{[]string{"b", "a"}, []api.Node{{}, node('a', 0, 0, 1), node('b', 0, 0, 0)}},
		{[]string{"aa"}, []api.Node{{}, node('a', 0, 0), node('a', 1, 1, 0)}},
		{[]string{"a", "aa", "a"}, []api.Node{{}, node('a', 0, 0, 0, 2), node('a', 1, 1, 0, 1, 2)}},
		{[]string{"\xff", "\x00", "\x7f", "\x80"}, []api.Node{{}, node(0, 0, 0, 1), node(0x7f, 0, 0, 2), node(0x80, 0, 0, 3), node(0xff, 0, 0, 0)}},
		{[]string{"\x00\x00"}, []api.Node{{}, node(0, 0, 0), node(0, 1, 1, 0)}},
		{[]string{"ba", "ab"}, []api.Node{{}, node('a', 0, 0), node('b', 0, 0), node('b', 1, 2, 1), node('a', 2, 1, 0)}},
		// The fail of abc is bc, but that of abcd is d: bcd is no beginning.
		{[]string{"abcd", "bc", "d"}, []api.Node{{}, node('a', 0, 0), node('b', 0, 0), node('d', 0, 0, 2), node('b', 1, 2), node('c', 2, 0, 1), node('c', 4, 5, 1), node('d', 6, 3, 0, 2)}},
		{[]string{"he", "she", "his", "hers"}, []api.Node{
			{}, node('h', 0, 0), node('s', 0, 0),
			node('e', 1, 0, 0), node('i', 1, 0), node('h', 2, 1),
			node('r', 3, 0), node('s', 4, 2, 2), node('e', 5, 3, 0, 1),
			node('s', 6, 2, 3),
		}},
	} {
		checkMake(t, c.words, c.want)
	}
}

func TestMakeOfAllShortWords(t *testing.T) {
	words := textsOf("ab", 3)[1:]
	for _, a := range words {
		checkMake(t, []string{a}, plainTree([]string{a}))
		for _, b := range words {
			checkMake(t, []string{a, b}, plainTree([]string{a, b}))
			for _, c := range words {
				checkMake(t, []string{a, b, c}, plainTree([]string{a, b, c}))
			}
		}
	}
}

func TestMakeOfManyWords(t *testing.T) {
	short := textsOf("\x00\x80\xff", 3)[1:]
	long := textsOf("ab", 8)
	for _, words := range [][]string{
		short[:30], short[9:], long[len(long)-30:], {long[300], long[301], long[299], long[150], long[75], long[37], long[18]},
		{strings.Repeat("a", 40), strings.Repeat("a", 39), "a", strings.Repeat("a", 20)}, {strings.Repeat("ab", 20), strings.Repeat("ba", 20), strings.Repeat("aab", 13)},
		slices.Repeat([]string{"same"}, 30),
	} {
		checkMake(t, words, plainTree(words))
		slices.Reverse(words)
		checkMake(t, words, plainTree(words))
	}
}

// apart are words that have no beginning in common, of these sizes.
func apart(sizes ...int) []string {
	var words []string
	for i, size := range sizes {
		words = append(words, strings.Repeat(string([]byte{byte(200 + i)}), size))
	}
	return words
}

func TestMakeAtItsBounds(t *testing.T) {
	for _, c := range []struct {
		words []string
		nodes int
	}{
		{apart(slices.Repeat([]int{1}, 30)...), 31},
		{apart(40), 41}, {apart(40, 40), 81}, {apart(1, 40), 42},
		{apart(40, 40, 40, 40, 40, 40, 40, 40, 40, 39), 400},
		{append(apart(40, 40, 40, 40, 40, 40, 40, 40, 40, 39), apart(40, 39, 1)...), 400},
	} {
		checkMake(t, c.words, plainTree(c.words))
		if got, _ := Make(c.words); len(got) != c.nodes {
			t.Errorf("%d words: %d nodes; want %d", len(c.words), len(got), c.nodes)
		}
	}
}

func checkMakeErr(t *testing.T, words []string, want api.Errno) {
	t.Helper()
	if got, e := Make(words); len(got) != 0 || e != want {
		t.Errorf("Make of %d words = %d nodes, %d; want %d", len(words), len(got), e, want)
	}
}

func TestMakeRefuses(t *testing.T) {
	long, full := strings.Repeat("a", 41), apart(40, 40, 40, 40, 40, 40, 40, 40, 40, 39)
	for _, words := range [][]string{
		nil, {}, {""}, {"", ""}, {"a", ""}, {"", "a"}, {"a", "", "b"}, slices.Repeat([]string{""}, 30), append(slices.Repeat([]string{"a"}, 29), ""),
		append(slices.Clone(full), "a", ""), append([]string{""}, apart(slices.Repeat([]int{40}, 29)...)...),
	} {
		checkMakeErr(t, words, api.ErrArg)
	}
	for _, words := range [][]string{
		{long}, {"a", long}, {long, "a"}, {"", long}, {long, ""}, {strings.Repeat("a", 100000)}, slices.Repeat([]string{"a"}, 31), slices.Repeat([]string{""}, 31), slices.Repeat([]string{long}, 31),
		append(slices.Repeat([]string{"a"}, 30), ""), append([]string{""}, slices.Repeat([]string{"a"}, 30)...), make([]string, 100000),
		apart(slices.Repeat([]int{40}, 10)...), apart(slices.Repeat([]int{40}, 30)...), append(slices.Clone(full), "a"), append([]string{"a"}, full...),
	} {
		checkMakeErr(t, words, api.ErrLarge)
	}
}
