package prog

import (
	"fmt"
	"slices"
	"strings"
	"testing"
	"unsafe"

	"gatewicket/api"
)

func oddTexts() []string {
	every := make([]byte, 256)
	for i := range every {
		every[i] = byte(i)
	}
	return []string{"", "a", "ab", "\x00", "\xff", "\xf0\x9f\x98", string(every), strings.Repeat("a", 8192), strings.Repeat("\xff", 8193), strings.Repeat("a", 100000)}
}

func oddRexes() []api.Rex {
	all := []api.Rex{{}, leaf(-1), leaf(99), leaf(api.RByte), leaf(api.RCat), leaf(api.RStar), star(leaf(0)), nodes(80, api.RAlt), nodes(81, api.RCat), stars(19, sign("a")), stars(1000, sign("a"))}
	pick := picker(5)
	for range 30 {
		all = append(all, mixed(pick, 1+pick(80)))
	}
	return all
}

func oddLists() [][]api.Inst {
	var all [][]api.Inst
	for _, c := range append(goodLists(), wrongLists()...) {
		all = append(all, c.p)
	}
	pick := picker(6)
	for range 30 {
		all = append(all, anyList(pick, 1+pick(50)))
	}
	return all
}

// looked calls everything of chapter 7 that takes a list and tells what was answered.
func looked(p []api.Inst, s string) string {
	span, is, findErr := Find(p, s)
	some, someErr := Some(p, s)
	return fmt.Sprint(Check(p), span, is, findErr, some, someErr)
}

func TestP1EachCallAnswers(t *testing.T) {
	for _, p := range oddLists() {
		for _, s := range oddTexts() {
			looked(p, s)
		}
	}
	for _, r := range oddRexes() {
		Make(r)
	}
}

func TestP1ExpressionsInThemselvesAreAnswered(t *testing.T) {
	for kind, n := range map[int]int{api.RCat: 2, api.RAlt: 2, api.RStar: 1} {
		kids := make([]api.Rex, n)
		for i := range kids {
			kids[i] = api.Rex{Kind: kind, Kids: kids}
		}
		if p, e := Make(kids[0]); p != nil || e != api.ErrDeep {
			t.Errorf("kind %d: %s, %d", kind, show(p), e)
		}
	}
}

// The texts are laid over bytes that the test can write to.
func TestP2NoTextIsChangedOrKept(t *testing.T) {
	for _, p := range oddLists() {
		for _, s := range oddTexts()[1:8] {
			want := looked(p, s)
			room := append([]byte(s), "behind"...)
			got := looked(p, unsafe.String(&room[0], len(s)))
			if string(room) != s+"behind" {
				t.Errorf("%.40q: what was handed in is changed", s)
			}
			clear(room)
			if got != want || looked(p, s) != want {
				t.Errorf("%s, %.40q: an answer hangs on where a text lies", show(p), s)
			}
		}
	}
}

// Each list is handed in with room behind it.
func TestP2NoListIsChanged(t *testing.T) {
	for _, p := range oddLists() {
		room := append(slices.Clone(p), jump(77), split(78, 79), byteIn("xyz"))
		before := slices.Clone(room)
		for _, s := range []string{"", "a", "abba", strings.Repeat("a", 8193)} {
			if looked(room[:len(p)], s) != looked(p, s) {
				t.Errorf("%s: an answer hangs on the room behind", show(p))
			}
		}
		if !slices.Equal(room, before) {
			t.Errorf("%s: what was handed in is changed", show(p))
		}
	}
}

// roomy is a copy of r with room behind each of its lists.
func roomy(r api.Rex) api.Rex {
	n := len(r.Kids)
	kids := append(slices.Clone(r.Kids), api.Rex{Kind: 99}, api.Rex{Kind: 98})
	for i := range n {
		kids[i] = roomy(kids[i])
	}
	r.Kids = kids[:n]
	return r
}

// whole tells all of r, the room behind its lists included.
func whole(r api.Rex) string {
	text := fmt.Sprint(r.Kind, r.Set, len(r.Kids))
	for _, kid := range r.Kids[:cap(r.Kids)] {
		text += "(" + whole(kid) + ")"
	}
	return text
}

func TestP2NoExpressionIsChanged(t *testing.T) {
	for _, r := range oddRexes() {
		room := roomy(r)
		before := whole(room)
		want, _ := Make(r)
		if got, _ := Make(room); !slices.Equal(got, want) || whole(room) != before {
			t.Errorf("%s: what was handed in is changed", show(want))
		}
	}
}

// An answer is written over, its spare room too: no other one may change with it.
func TestP2AnswersAreNew(t *testing.T) {
	for _, r := range oddRexes() {
		first, e := Make(r)
		second, _ := Make(r)
		want := slices.Clone(second)
		room := first[:cap(first)]
		for i := range room {
			room[i] = jump(1000 + i)
		}
		third, again := Make(r)
		if !slices.Equal(second, want) || !slices.Equal(third, want) || e != again {
			t.Errorf("%s: an answer is kept or shared", show(want))
		}
	}
}

// A list and an expression that are changed between two calls are looked at anew.
func TestP2NothingIsKept(t *testing.T) {
	p := made(t, "ab*")
	checkFind(t, p, "xabbc", api.Span{From: 1, To: 4}, true)
	p[2] = byteIn("c")
	checkFind(t, p, "xabbc", api.Span{From: 1, To: 2}, true)
	p[2].Kind = 0
	if e := Check(p); e != api.ErrArg {
		t.Errorf("Check = %d", e)
	}
	r := cat(sign("a"), sign("b"))
	checkMake(t, r, list(byteIn("a"), byteIn("b"), match()))
	r.Kids[1] = leaf(api.REnd)
	checkMake(t, r, list(byteIn("a"), inst(api.IEnd), match()))
}

func TestP2TheSameIsAnsweredAgain(t *testing.T) {
	var first []string
	all, texts := oddLists(), oddTexts()
	for _, p := range all {
		for _, s := range texts {
			first = append(first, looked(p, s))
		}
	}
	for _, p := range slices.Backward(all) {
		for _, s := range slices.Backward(texts) {
			last := len(first) - 1
			if looked(p, s) != first[last] {
				t.Errorf("%s, %.40q: an answer hangs on earlier calls", show(p), s)
			}
			first = first[:last]
		}
	}
}
