package phrase

import (
	"fmt"
	"math"
	"slices"
	"strings"
	"testing"
	"unsafe"

	"gatewicket/api"
)

func oddTexts() []string {
	every := make([]byte, 256)
	for i := range every {
		every[i] = byte(i)
	}
	return []string{"", "a", "aaaa", "ushers", "\x00", "\xff", "\xf0\x9f\x98", string(every), strings.Repeat("a", 40), strings.Repeat("a", 8192), strings.Repeat("a", 8193), strings.Repeat("\xff", 100000)}
}

func oddWords() [][]string {
	lists := [][]string{nil, {}, {""}, {"a", ""}, {"a"}, {"he", "she", "his", "hers"}, {"a", "aa", "aaa", "a"}, oddTexts(), make([]string, 31), slices.Repeat([]string{"a"}, 30), apart(40, 40, 40, 40, 40, 40, 40, 40, 40, 40)}
	for _, s := range oddTexts() {
		lists = append(lists, []string{s})
	}
	return lists
}

func oddTrees() []treeCase {
	trees := append(goodTrees(), wrongTrees()...)
	for _, words := range oddWords() {
		t, e := Make(words)
		trees = append(trees, treeCase{t, len(words), e})
	}
	return trees
}

// all calls everything of chapter 5 that takes a tree and tells what was answered.
func all(t []api.Node, words int, s string) string {
	hits, hitsErr := Hits(t, words, s)
	some, someErr := Some(t, words, s)
	return fmt.Sprint(Check(t, words), hits, hitsErr, some, someErr)
}

func made(words []string) string {
	t, e := Make(words)
	return fmt.Sprint(t, e)
}

func TestP1EachCallAnswers(t *testing.T) {
	for _, words := range oddWords() {
		Make(words)
	}
	for _, c := range oddTrees() {
		for _, s := range oddTexts() {
			for _, words := range []int{c.words, math.MinInt, -1, 0, 1, 30, 31, math.MaxInt} {
				all(c.t, words, s)
			}
		}
	}
}

// The texts are laid over bytes that the test can write to.
func TestP2NoTextIsChangedOrKept(t *testing.T) {
	tree, _ := Make([]string{"he", "she", "his", "hers"})
	for _, s := range oddTexts()[1:] {
		want, wantMade := all(tree, 4, s), made([]string{s, s[:1]})
		room := append([]byte(s), "behind"...)
		text := unsafe.String(&room[0], len(s))
		got, gotMade := all(tree, 4, text), made([]string{text, text[:1]})
		if string(room) != s+"behind" {
			t.Errorf("%.40q: what was handed in is changed", s)
		}
		if got != want || gotMade != wantMade {
			t.Errorf("%.40q: an answer hangs on where a text lies", s)
		}
	}
}

func TestP2NoListOfWordsIsChanged(t *testing.T) {
	for _, words := range oddWords() {
		room := append(slices.Clone(words), "b", "a", "")
		before := slices.Clone(room)
		Make(room[:len(words)])
		if !slices.Equal(room, before) {
			t.Errorf("%.80q: what was handed in is changed", words)
		}
	}
}

// roomy is a copy of a tree with room behind it and behind each of its lists.
func roomy(t []api.Node) []api.Node {
	room := append(slices.Clone(t), api.Node{Byte: 9, Up: 9, Fail: 9})
	for i := range t {
		room[i].Ends = append(slices.Clone(t[i].Ends), 7, 8, 9)
	}
	return room
}

func TestP2NoTreeIsChanged(t *testing.T) {
	for _, c := range oddTrees() {
		room := roomy(c.t)
		before := fmt.Sprint(room)
		tree := slices.Clone(room)[:len(c.t)]
		for i := range tree {
			tree[i].Ends = room[i].Ends[:len(c.t[i].Ends)]
		}
		kept := fmt.Sprint(tree, tree[:cap(tree)])
		for _, s := range oddTexts() {
			all(tree, c.words, s)
		}
		if fmt.Sprint(room) != before || fmt.Sprint(tree, tree[:cap(tree)]) != kept {
			t.Errorf("%.80v: what was handed in is changed", c.t)
		}
	}
}

// Each list of an answer is written over, its spare room too: nothing else may change with it.
func TestP2ListsOfTreesShareNothing(t *testing.T) {
	for _, words := range [][]string{{"a"}, {"he", "she", "his", "hers"}, {"a", "aa", "aaa", "a"}, {"abcd", "bc", "xabce", "c"}, textsOf("ab", 3)[1:], slices.Repeat([]string{"a", "ba", "cba"}, 10)} {
		want := made(words)
		tree, _ := Make(words)
		for i := range tree {
			ends := tree[i].Ends[:cap(tree[i].Ends)]
			for k := range ends {
				ends[k] = -1 - i
			}
		}
		for i := range tree {
			for _, n := range tree[i].Ends[:cap(tree[i].Ends)] {
				if n != -1-i {
					t.Fatalf("%q: nodes %d and %d share a list", words, i, -1-n)
				}
			}
		}
		clear(tree[:cap(tree)])
		if made(words) != want {
			t.Errorf("%q: an answer is kept", words)
		}
	}
}

func TestP2HitsShareNothing(t *testing.T) {
	tree, _ := Make([]string{"a", "aa"})
	before := fmt.Sprint(tree)
	first, _ := Hits(tree, 2, "aaaaa")
	second, _ := Hits(tree, 2, "aaaaa")
	want := slices.Clone(second)
	for i := range cap(first) {
		first[:cap(first)][i] = api.Hit{Word: 99, To: 99}
	}
	third, _ := Hits(tree, 2, "aaaaa")
	if !slices.Equal(second, want) || !slices.Equal(third, want) || fmt.Sprint(tree) != before {
		t.Error("Hits answers memory that is kept or shared")
	}
}

// A tree that is changed between two calls is looked at anew.
func TestP2NoTreeIsKept(t *testing.T) {
	tree, _ := Make([]string{"a", "b"})
	checkHits(t, tree, 2, "ab", pairs(0, 1, 1, 2))
	tree[1].Byte = 'c'
	tree[2].Ends[0] = 0
	checkHits(t, tree, 2, "ab", pairs(0, 2))
	tree[2].Byte = 'c'
	checkHitsErr(t, tree, 2, "ab", api.ErrArg)
}

func TestP2TheSameIsAnsweredAgain(t *testing.T) {
	var first []string
	trees, texts := oddTrees(), oddTexts()
	for _, c := range trees {
		for _, s := range texts {
			first = append(first, all(c.t, c.words, s))
		}
	}
	for _, c := range slices.Backward(trees) {
		for _, s := range slices.Backward(texts) {
			last := len(first) - 1
			if all(c.t, c.words, s) != first[last] {
				t.Errorf("%.80v, %.40q: an answer hangs on earlier calls", c.t, s)
			}
			first = first[:last]
		}
	}
	for _, words := range oddWords() {
		if made(words) != made(words) {
			t.Errorf("%.80q: Make hangs on earlier calls", words)
		}
	}
}
