package nets

import (
	"bytes"
	"fmt"
	"math"
	"slices"
	"strings"
	"testing"
	"unsafe"

	"gatewicket/api"
)

func oddTexts() []string {
	every := make([]byte, 256)
	for i := range every {
		every[i] = byte(i)
	}
	return []string{
		"", "-", "/", ".", ",", "a", "0", "7", "255", "256", "0-63,255", "5-4", "1.2.3.4", "10.1.0.0/16", "1.2.3.5/31", "0.0.0.0/0,1.1.1.1", "1.1.1.1,x", "1.1.1.1/", "...", ".../", "\x00", "\xff", "\xf0\x9f\x98", string(every),
		times(30, "1.1.1.1"), times(31, "1.1.1.1"), times(256, "7"), strings.Repeat("1", 100000), strings.Repeat(".", 100000), strings.Repeat("/", 100000), strings.Repeat(",", 100000), strings.Repeat("-", 100000), strings.Repeat("\xff", 100000),
	}
}

func oddNets() []api.Net {
	var all []api.Net
	for _, bits := range []int{math.MinInt, math.MinInt32, -33, -32, -1, 0, 1, 31, 32, 33, 63, 64, 65, math.MaxInt32, math.MaxInt} {
		for _, addr := range []uint32{0, 1, 0x0a010000, 1 << 31, math.MaxUint32} {
			all = append(all, api.Net{Addr: addr, Bits: bits})
		}
	}
	return all
}

// read calls everything of chapter 8 that takes a text and tells what was answered.
func read(s string) string {
	n, parseErr := Parse(s)
	l, listErr := List(s)
	set, bytesErr := Bytes(s)
	return fmt.Sprint(n, parseErr, l, listErr, set, bytesErr)
}

// looked calls everything of chapter 8 that takes a net and tells what was answered.
func looked(n api.Net) string {
	text, e := Print(n)
	answers := fmt.Sprint(text, e)
	for _, addr := range []uint32{0, 1, 0x0a01ffff, 1 << 31, math.MaxUint32} {
		answers += fmt.Sprint(In(n, addr))
	}
	return answers
}

func TestP1EachCallAnswers(t *testing.T) {
	for _, s := range oddTexts() {
		read(s)
	}
	for _, n := range oddNets() {
		looked(n)
	}
}

// A text is laid over bytes that the test can write to, so that it shows
// whether a call changes them, and whether an answer changes with them.
func TestP2NoTextIsChangedOrKept(t *testing.T) {
	for _, s := range oddTexts()[1:] {
		want := read(strings.Clone(s))
		room := append([]byte(s), "behind"...)
		before := bytes.Clone(room)
		laid := unsafe.String(&room[0], len(s))
		got := read(laid)
		if !bytes.Equal(room, before) {
			t.Errorf("%.40q: what was handed in is changed", s)
		}
		for i := range room {
			room[i] = '#'
		}
		if got != want || read(laid) != read(strings.Repeat("#", len(s))) || read(s) != want {
			t.Errorf("%.40q: an answer hangs on where a text lies", s)
		}
	}
}

// An answer is written over, its spare room too: no other one may change with it.
func TestP2ListsAreNew(t *testing.T) {
	for n := 1; n <= 30; n++ {
		s := times(n, "10.1.0.0/16")
		first, _ := List(s)
		second, _ := List(s)
		want := slices.Clone(second)
		room := first[:cap(first)]
		for i := range room {
			room[i] = api.Net{Addr: 99, Bits: 98}
		}
		third, e := List(s)
		if len(want) != n || !slices.Equal(second, want) || !slices.Equal(third, want) || e != api.OK {
			t.Errorf("List(%.40q) answers memory that is kept or shared", s)
		}
	}
}

func TestP2TheSameIsAnsweredAgain(t *testing.T) {
	var first []string
	for _, s := range oddTexts() {
		first = append(first, read(s))
	}
	for _, n := range oddNets() {
		first = append(first, looked(n))
	}
	for _, n := range slices.Backward(oddNets()) {
		last := len(first) - 1
		if looked(n) != first[last] {
			t.Errorf("%x: an answer hangs on earlier calls", n)
		}
		first = first[:last]
	}
	for _, s := range slices.Backward(oddTexts()) {
		last := len(first) - 1
		if read(s) != first[last] {
			t.Errorf("%.40q: an answer hangs on earlier calls", s)
		}
		first = first[:last]
	}
}
