package head

import (
	"bytes"
	"fmt"
	"slices"
	"strings"
	"testing"
	"unsafe"

	"gatewicket/api"
)

func oddTexts() []string {
	every := make([]byte, 256)
	for i := range every {
		every[i] = byte(i)
	}
	const first = "GET / HTTP/1.1\r\n"
	return []string{
		"", "a", ":", "\r", "\n", "\r\n", "\r\n\r\n", "\r\n\r", "\n\r\n", " ", "  ", "GET", "/", "HTTP/1.1", first, first + "\r\n", first + "A: b\r\n\r\n", first + "A: b\r\na:\t c d \r\nB:\r\n\r\n", first + "A\r\n\r\n", "  HTTP/1.1\r\n\r\n", "\x00", "\xff", "\xf0\x9f\x98", string(every), string(every) + "\r\n\r\n",
		first + times(30, "a: b\r\n") + "\r\n", first + times(31, "a: b\r\n") + "\r\n", first + "A:" + times(1000, "b") + "\r\n\r\n", times(2048, "\r\n"), times(1024, ":\r\n") + "\r\n\r\n", times(4092, "a") + "\r\n\r\n", times(4092, " ") + "\r\n\r\n", times(100000, "a"), times(100000, ":"), times(100000, "\r\n"), times(100000, "\xff"),
	}
}

func oddHeads() []api.Head {
	all := []api.Head{{}, with(), with(fieldsOf(30, field("A", "b"))...), with(fieldsOf(31, field("a", "b"))...), with(fieldsOf(100000, field("", ""))...)}
	for _, s := range oddTexts() {
		all = append(all, head(s, "/"), head("GET", s), with(field(s, "b")), with(field("a", s)), head(s, s, field(s, s)))
	}
	return all
}

// looked calls everything of chapter 9 that takes a head and tells what was answered.
func looked(h api.Head, name string) string {
	text, e := Print(h)
	return fmt.Sprintf("%d %q %d %q", Check(h), text, e, Get(h, name))
}

// parsed calls what takes a text and tells what was answered.
func parsed(s string) string {
	h, e := Parse(s)
	return fmt.Sprintf("%q %d", h, e)
}

func TestP1EachCallAnswers(t *testing.T) {
	for _, s := range oddTexts() {
		parsed(s)
		for _, h := range []api.Head{{}, with(field("a", "b")), with(field(s, s))} {
			Get(h, s)
		}
	}
	for _, h := range oddHeads() {
		looked(h, "a")
	}
}

// laid is s over bytes that the test can write to, with room behind.
func laid(s string) ([]byte, string) {
	room := append([]byte(s), "behind"...)
	return room, unsafe.String(&room[0], len(s))
}

// What is answered of a text is held as it came, and told only when the text
// has been written over.
func TestP2NoTextIsChangedKeptOrShared(t *testing.T) {
	for _, s := range oddTexts() {
		want := parsed(strings.Clone(s))
		room, text := laid(s)
		before := bytes.Clone(room)
		h, e := Parse(text)
		if !bytes.Equal(room, before) {
			t.Errorf("%.40q: what was handed in is changed", s)
		}
		clear(room)
		if got := fmt.Sprintf("%q %d", h, e); got != want || parsed(s) != want {
			t.Errorf("%.40q: an answer shares memory with what was handed in", s)
		}
	}
}

func TestP2NoHeadIsChangedKeptOrShared(t *testing.T) {
	for _, s := range []string{"a", "A-b", "x y", "/", "\xff", " x", times(999, "v")} {
		for _, c := range []api.Head{head(s, "/"), head("GET", s), with(field(s, "b"), field("a", "c")), with(field("a", s), field("A", s))} {
			var rooms [][]byte
			lay := func(s string) string {
				room, text := laid(s)
				rooms = append(rooms, room)
				return text
			}
			h := head(lay(c.Method), lay(c.Target))
			for _, f := range c.Fields {
				h.Fields = append(h.Fields, field(lay(f.Name), lay(f.Value)))
			}
			before := bytes.Join(rooms, nil)
			e, name := Check(h), lay("A")
			text, printErr := Print(h)
			values := Get(h, name)
			if !bytes.Equal(bytes.Join(rooms[:len(rooms)-1], nil), before) || name != "A" {
				t.Errorf("%s: what was handed in is changed", show(c))
			}
			for _, room := range rooms {
				clear(room)
			}
			if got := fmt.Sprintf("%d %q %d %q", e, text, printErr, values); got != looked(c, "a") {
				t.Errorf("%s: an answer shares memory with what was handed in", show(c))
			}
		}
	}
}

// The list of fields is handed in with room behind it.
func TestP2NoListIsChanged(t *testing.T) {
	for _, h := range oddHeads() {
		room := append(slices.Clone(h.Fields), field("a", "behind"), field("b c", "\n"))
		before := slices.Clone(room)
		roomy := head(h.Method, h.Target, room[:len(h.Fields)]...)
		if looked(roomy, "a") != looked(h, "a") {
			t.Errorf("%s: an answer hangs on the room behind", show(h))
		}
		if !slices.Equal(room, before) {
			t.Errorf("%s: what was handed in is changed", show(h))
		}
	}
}

// Answers are written over, their spare room too: no other one may change with them.
func TestP2ListsAreNew(t *testing.T) {
	for n := range 31 {
		s := "GET / HTTP/1.1\r\n" + times(n, "a: b\r\n") + "\r\n"
		first, _ := Parse(s)
		second, _ := Parse(s)
		want := with(fieldsOf(n, field("a", "b"))...)
		values, others := Get(second, "a"), Get(second, "a")
		fields := first.Fields[:cap(first.Fields)]
		for i := range fields {
			fields[i] = field("x", "y")
		}
		values = values[:cap(values)]
		for i := range values {
			values[i] = "z"
		}
		third, e := Parse(s)
		if !same(second, want) || !same(third, want) || e != api.OK {
			t.Errorf("Parse of %d fields answers memory that is kept or shared", n)
		}
		if wantValues := slices.Repeat([]string{"b"}, n); !slices.Equal(others, wantValues) || !slices.Equal(Get(second, "a"), wantValues) {
			t.Errorf("Get of %d fields answers memory that is kept or shared", n)
		}
	}
}

func TestP2TheSameIsAnsweredAgain(t *testing.T) {
	var first []string
	for _, s := range oddTexts() {
		first = append(first, parsed(s))
	}
	for _, h := range oddHeads() {
		first = append(first, looked(h, "a"))
	}
	for _, h := range slices.Backward(oddHeads()) {
		last := len(first) - 1
		if looked(h, "a") != first[last] {
			t.Errorf("%s: an answer hangs on earlier calls", show(h))
		}
		first = first[:last]
	}
	for _, s := range slices.Backward(oddTexts()) {
		last := len(first) - 1
		if parsed(s) != first[last] {
			t.Errorf("%.40q: an answer hangs on earlier calls", s)
		}
		first = first[:last]
	}
}
