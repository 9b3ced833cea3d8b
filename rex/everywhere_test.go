package rex

import (
	"fmt"
	"slices"
	"strings"
	"testing"
	"unsafe"

	"gatewicket/api"
)

func oddTexts() []string {
	every := make([]byte, 256)
	for i := range every {
		every[i] = byte(i)
	}
	return []string{
		"", "a", "ab*", "a+", "(a|b)+?", "(ab)+", "a++++", "a+++++", "[^a-c\\d]", "[^\\x00-\\xff]", "[b-a]", "(", "[", "\\", "\\x", "[a-", "a|", "\x00", "\xff", "\xf0\x9f\x98", string(every),
		strings.Repeat("a", 200), strings.Repeat("(", 200), strings.Repeat("()", 100), "a" + strings.Repeat("+", 199), "a" + strings.Repeat("?", 199), strings.Repeat("[", 200), strings.Repeat("\\", 200), strings.Repeat("|", 200),
		strings.Repeat("a", 201), strings.Repeat("a", 300), strings.Repeat("a", 301), strings.Repeat("\xff", 100000), strings.Repeat("(", 100000),
	}
}

func oddRexes() []api.Rex {
	var list []api.Rex
	for _, c := range append(goodOnes(), wrongOnes()...) {
		list = append(list, c.r)
	}
	pick := picker(12)
	for range 30 {
		list = append(list, mixed(pick, 1+pick(80)))
	}
	return append(list, api.Rex{})
}

// all calls everything of chapter 6 and tells what was answered.
func all(r api.Rex, s string) string {
	text, printErr := Print(r)
	span, is, findErr := Find(r, s)
	parsed, at, parseErr := Parse(s)
	return fmt.Sprint(Check(r), text, printErr, span, is, findErr, parsed, at, parseErr)
}

func TestP1EachCallAnswers(t *testing.T) {
	for _, r := range oddRexes() {
		for _, s := range oddTexts() {
			all(r, s)
		}
	}
}

func TestP1ListsInThemselvesAreAnswered(t *testing.T) {
	for _, kind := range []int{api.RCat, api.RAlt, api.RStar} {
		kids := make([]api.Rex, kidsOf(kind))
		for i := range kids {
			kids[i] = api.Rex{Kind: kind, Kids: kids}
		}
		_, printErr := Print(kids[0])
		_, _, findErr := Find(kids[0], "a")
		if printErr != api.ErrDeep || findErr != api.ErrDeep {
			t.Errorf("kind %d: %d, %d", kind, printErr, findErr)
		}
	}
}

// The texts are laid over bytes that the test can write to.
func TestP2NoTextIsChangedKeptOrShared(t *testing.T) {
	r, _, _ := Parse("(a|b)+c*")
	for _, s := range oddTexts()[1:] {
		want := all(r, s)
		parsed, _, _ := Parse(s)
		before := fmt.Sprint(parsed)
		room := append([]byte(s), "behind"...)
		text := unsafe.String(&room[0], len(s))
		got := all(r, text)
		parsed, _, _ = Parse(text)
		if string(room) != s+"behind" {
			t.Errorf("%.40q: what was handed in is changed", s)
		}
		clear(room)
		if got != want || fmt.Sprint(parsed) != before {
			t.Errorf("%.40q: an answer hangs on where a text lies", s)
		}
	}
}

// roomy is a copy of r with room behind each of its lists.
func roomy(r api.Rex) api.Rex {
	n := len(r.Kids)
	kids := append(slices.Clone(r.Kids), api.Rex{Kind: 99}, api.Rex{Kind: 98})
	for i := range n {
		kids[i] = roomy(kids[i])
	}
	r.Kids = kids[:n]
	return r
}

// whole tells all of r, the room behind its lists included.
func whole(r api.Rex) string {
	text := fmt.Sprint(r.Kind, r.Set, len(r.Kids))
	for _, kid := range r.Kids[:cap(r.Kids)] {
		text += "(" + whole(kid) + ")"
	}
	return text
}

func TestP2NoExpressionIsChanged(t *testing.T) {
	for _, r := range oddRexes() {
		room := roomy(r)
		before := whole(room)
		for _, s := range []string{"", "a", "abba", strings.Repeat("a", 301)} {
			all(room, s)
		}
		if whole(room) != before {
			t.Errorf("%s: what was handed in is changed", show(r))
		}
	}
}

// lists are all lists of r, each with the room behind it.
func lists(r api.Rex) [][]api.Rex {
	list := [][]api.Rex{r.Kids[:cap(r.Kids)]}
	for _, kid := range r.Kids {
		list = append(list, lists(kid)...)
	}
	return list
}

// Each list of an answer is written over, its spare room too: nothing else may change with it.
func TestP2ListsOfExpressionsShareNothing(t *testing.T) {
	for _, s := range []string{"a+", "(ab)+", "(ab)++", "(a|b)+?", "((a*)+b)+", "a++++", "(a+|b?)+", "a?+", "(a|)*+c"} {
		first, _, _ := Parse(s)
		second, _, _ := Parse(s)
		want := fmt.Sprint(second)
		all := lists(first)
		for i, list := range all {
			for k := range list {
				list[k] = api.Rex{Kind: 1000 + i}
			}
		}
		for i, list := range all {
			for _, r := range list {
				if r.Kind != 1000+i {
					t.Fatalf("%q: lists %d and %d are shared", s, i, r.Kind-1000)
				}
			}
		}
		third, _, _ := Parse(s)
		if fmt.Sprint(second) != want || fmt.Sprint(third) != want {
			t.Errorf("%q: an answer is kept", s)
		}
	}
}

// An expression that is changed between two calls is looked at anew.
func TestP2NoExpressionIsKept(t *testing.T) {
	r, _, _ := Parse("ab*")
	checkFind(t, r, "xabbc", api.Span{From: 1, To: 4}, true)
	checkPrint(t, r, "ab*")
	r.Kids[1].Kids[0] = sign("c")
	checkFind(t, r, "xabbc", api.Span{From: 1, To: 2}, true)
	checkPrint(t, r, "ac*")
	r.Kids[0].Kind = 0
	if e := Check(r); e != api.ErrArg {
		t.Errorf("Check = %d", e)
	}
}

func TestP2TheSameIsAnsweredAgain(t *testing.T) {
	var first []string
	list, texts := oddRexes(), oddTexts()
	for _, r := range list {
		for _, s := range texts {
			first = append(first, all(r, s))
		}
	}
	for _, r := range slices.Backward(list) {
		for _, s := range slices.Backward(texts) {
			last := len(first) - 1
			if all(r, s) != first[last] {
				t.Errorf("%s, %.40q: an answer hangs on earlier calls", show(r), s)
			}
			first = first[:last]
		}
	}
}
