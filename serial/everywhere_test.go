package serial

import (
	"bytes"
	"fmt"
	"slices"
	"testing"
	"unsafe"

	"gatewicket/api"
)

func oddTexts() []string {
	every := make([]byte, 256)
	for i := range every {
		every[i] = byte(i)
	}
	return []string{
		"", "a", " ", "\t", ",", " , ", ",,", "a,b", "A , B", "\r", "\n", "\r\n", ":", "\x00", "\xff", "\xf0\x9f\x98", string(every), "connection", "Connection", "TE", "content-length", "Transfer-Encoding", "chunked", "close", "0", "3", "999999999", "x y",
		times(20, "M"), times(1000, "v"), times(1001, "v"), times(4096, "b"), times(4097, "b"), times(100000, ","), times(100000, "a,"), times(100000, "\xff"),
	}
}

func oddHeads() []api.Head {
	all := []api.Head{{}, with(), with("A", "b", "Connection", "a", "c", "d"), with("Content-Length", "3", "Connection", "A", "a", "b")}
	for _, n := range []int{29, 30, 31, 10000} {
		all = append(all, api.Head{Method: "GET", Target: "/", Fields: slices.Repeat([]api.Field{field("Connection", "a"), field("b", "c")}, (n+1)/2)[:n]})
	}
	for _, s := range oddTexts() {
		all = append(all, with(s, "b"), with("a", s), with("Connection", s, s, "1", "a", "2"), with("Content-Length", s), with("A", "b", "Transfer-Encoding", s), with("Transfer-Encoding", "chunked", "A", s), api.Head{Method: s, Target: s}, api.Head{Method: s, Target: s, Fields: []api.Field{field(s, s), field("connection", s), field(s, s)}})
	}
	return all
}

// odd calls f with odd heads and bodies: each head beside some of the bodies.
func odd(f func(api.Request)) {
	texts := oddTexts()
	for i, h := range oddHeads() {
		for _, body := range []string{"", "abc", texts[i%len(texts)], texts[i/2%len(texts)]} {
			f(api.Request{Head: h, Body: body})
		}
	}
}

// looked calls everything of chapter 12 and tells what was answered.
func looked(q api.Request) string {
	s, e := Forward(q)
	return told(Strip(q.Head), s, e)
}

func told(h api.Head, s string, e api.Errno) string { return fmt.Sprintf("%q %q %d", h, s, e) }

func TestP1EachCallAnswers(t *testing.T) {
	odd(func(q api.Request) { looked(q) })
}

func TestNothingBesideAnError(t *testing.T) {
	odd(func(q api.Request) {
		if s, e := Forward(q); (s == "") != (e != api.OK) {
			t.Errorf("Forward(%s) tells %.100q beside %d", show(q), s, e)
		}
	})
}

// layer lays texts over bytes that the test can write to, with room behind.
type layer struct{ rooms [][]byte }

func (l *layer) text(s string) string {
	room := append([]byte(s), ",behind"...)
	l.rooms = append(l.rooms, room)
	return unsafe.String(&room[0], len(s))
}

func (l *layer) request(q api.Request) api.Request {
	laid := api.Request{Head: api.Head{Method: l.text(q.Head.Method), Target: l.text(q.Head.Target)}, Body: l.text(q.Body)}
	for _, f := range q.Head.Fields {
		laid.Head.Fields = append(laid.Head.Fields, field(l.text(f.Name), l.text(f.Value)))
	}
	return laid
}

func (l *layer) all() []byte { return bytes.Join(l.rooms, nil) }

func (l *layer) spoil() {
	for _, room := range l.rooms {
		clear(room)
	}
}

// What is answered is held as it came, and told only when the texts that were
// handed in have been written over.
func TestP2NoTextIsChangedKeptOrShared(t *testing.T) {
	odd(func(q api.Request) {
		if len(q.Head.Fields) > 100 {
			return
		}
		want := looked(q)
		var l layer
		laid := l.request(q)
		before := l.all()
		h := Strip(laid.Head)
		s, e := Forward(laid)
		if !bytes.Equal(l.all(), before) {
			t.Errorf("%s: what was handed in is changed", show(q))
		}
		l.spoil()
		if told(h, s, e) != want || looked(q) != want {
			t.Errorf("%s: an answer shares memory with what was handed in", show(q))
		}
	})
}

// The list of fields is handed in with room behind it.
func TestP2NoListIsChanged(t *testing.T) {
	odd(func(q api.Request) {
		room := append(slices.Clone(q.Head.Fields), field("connection", "a,b"), field("Content-Length", "x"), field("b c", "\n"))
		before := slices.Clone(room)
		roomy := q
		roomy.Head.Fields = room[:len(q.Head.Fields)]
		if looked(roomy) != looked(q) {
			t.Errorf("%s: an answer hangs on the room behind", show(q))
		}
		if !slices.Equal(room, before) {
			t.Errorf("%s: what was handed in is changed", show(q))
		}
	})
}

// Answers are written over, their spare room too: no other one, and nothing
// that was handed in, may change with them.
func TestP2ListsAreNew(t *testing.T) {
	for n := range 40 {
		h := with("Connection", "x")
		for i := range n {
			h.Fields = append(h.Fields, field("A", fmt.Sprint(i)), field("x", "1"))
		}
		first, second, want := Strip(h), Strip(h), plainStrip(h)
		// A head of which all stays is the one that is the most easily handed back.
		kept, wantKept := want, api.Head{Method: want.Method, Target: want.Target, Fields: slices.Clone(want.Fields)}
		whole := Strip(kept)
		for _, fields := range [][]api.Field{first.Fields, whole.Fields} {
			fields = fields[:cap(fields)]
			for i := range fields {
				fields[i] = field("y", "z")
			}
		}
		if !same(second, want) || !same(Strip(h), want) || !same(plainStrip(h), want) || !same(kept, wantKept) {
			t.Errorf("Strip of %d fields answers memory that is kept or shared", n)
		}
	}
}

func TestP2TheSameIsAnsweredAgain(t *testing.T) {
	var asked []api.Request
	var answered []string
	odd(func(q api.Request) { asked, answered = append(asked, q), append(answered, looked(q)) })
	for i, q := range slices.Backward(asked) {
		if looked(q) != answered[i] {
			t.Errorf("%s: an answer hangs on earlier calls", show(q))
		}
	}
}
