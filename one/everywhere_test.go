package one

import (
	"bytes"
	"fmt"
	"math"
	"slices"
	"strings"
	"testing"
	"unsafe"

	"gatewicket/api"
)

func oddTexts() []string {
	every := make([]byte, 256)
	for i := range every {
		every[i] = byte(i)
	}
	return []string{
		"", "a", "\r", "\n", "\r\n", "\r\n\r", "\r\n\r\n", "\r\n\r\n\r\n\r\n", " ", ":", "\x00", "\xff", "\xf0\x9f\x98", string(every), string(every) + "\r\n\r\n",
		first, first + "\r", plain, sized, chunked, plain + sized + chunked + "x", sized[:len(sized)-1], chunked[:len(chunked)-1], chunked + "GET\r\n\r\n", first + "A: b\r\nc:\t d e \r\nA: f\r\n\r\n", first + times(30, "a: b\r\n") + "\r\n", first + times(31, "a: b\r\n") + "\r\n",
		first + "Content-Length: 999999999\r\n\r\n", first + "Content-Length: 0\r\n\r\n", first + "Transfer-Encoding: chunked\r\n\r\nfffffff\r\n", first + "Transfer-Encoding: chunked\r\n\r\n" + times(4096, "1\r\na\r\n") + "0\r\n\r\n", first + "Content-Length: 3\r\nTransfer-Encoding: chunked\r\n\r\n",
		times(4095, "x"), times(8192, "x"), times(8193, "x"), times(100000, "x"), times(100000, "\r\n"), times(3000, plain), times(3000, chunked), times(100000, "\xff"),
	}
}

func oddBounds() []api.Bounds {
	return []api.Bounds{{}, widest, bounds(30, 0), bounds(29, 0), bounds(50, 2), bounds(-1, -1), {Head: math.MaxInt, Body: math.MaxInt, Args: math.MaxInt}, {Head: math.MinInt, Body: math.MinInt, Args: math.MinInt}, {Head: 4096, Body: 4096, Args: 41}}
}

// looked calls everything of chapter 11 and tells what was answered.
func looked(r api.Reader, b api.Bounds, s string) string {
	return fmt.Sprintf("%d %s %s", Check(b), lookedOne(One(s, b)), lookedFeed(Feed(r, b, s)))
}

func lookedOne(q api.Request, n int, e api.Errno) string { return fmt.Sprintf("%q %d %d", q, n, e) }

func lookedFeed(r api.Reader, l []api.Request, e api.Errno) string {
	return fmt.Sprintf("%q %d %q %d", r.Rest, r.Over, l, e)
}

// odd calls f with odd readers, bounds and texts: not with all of each, but
// with each one beside some others.
func odd(f func(api.Reader, api.Bounds, string)) {
	texts := oddTexts()
	for i, s := range texts {
		for j, b := range oddBounds() {
			f(api.Reader{}, b, s)
			f(waiting(s), b, "")
			f(waiting(texts[(i+j)%len(texts)]), b, s)
			f(api.Reader{Rest: s, Over: api.Errno(j + 1)}, b, s)
		}
	}
}

func TestP1EachCallAnswers(t *testing.T) {
	odd(func(r api.Reader, b api.Bounds, s string) { looked(r, b, s) })
	for _, e := range []api.Errno{-1, math.MaxInt, math.MinInt} {
		looked(api.Reader{Rest: plain, Over: e}, widest, plain)
	}
}

// Beside an error there is nothing else, but where the chapter tells it: the
// reader, and the requests that were there.
func TestNothingBesideAnError(t *testing.T) {
	odd(func(r api.Reader, b api.Bounds, s string) {
		if q, n, e := One(s, b); e != api.OK && (!same(q, api.Request{}) || q.Head.Fields != nil || n != 0) {
			t.Errorf("One(%.40q, %d) tells %.100q and %d beside %d", s, b, q, n, e)
		}
		next, l, e := Feed(r, b, s)
		switch e {
		case api.OK:
			if next.Over != api.OK {
				t.Errorf("Feed(%s, %d, %.40q) ends and tells OK", show(r), b, s)
			}
		case api.ErrArg, api.ErrLarge, api.ErrOver:
			if next != r || len(l) != 0 {
				t.Errorf("Feed(%s, %d, %.40q) tells %s, %s beside %d", show(r), b, s, show(next), show(l), e)
			}
		default:
			if next != over(e) {
				t.Errorf("Feed(%s, %d, %.40q) tells %s beside %d", show(r), b, s, show(next), e)
			}
		}
	})
}

// laid is s over bytes that the test can write to, with room behind.
func laid(s string) ([]byte, string) {
	room := append([]byte(s), "\r\n\r\nbehind"...)
	return room, unsafe.String(&room[0], len(s))
}

// What is answered is held as it came, and told only when the texts that were
// handed in have been written over.
func TestP2NoTextIsChangedKeptOrShared(t *testing.T) {
	odd(func(r api.Reader, b api.Bounds, s string) {
		wantOne := lookedOne(One(strings.Clone(s), b))
		wantFeed := lookedFeed(Feed(api.Reader{Rest: strings.Clone(r.Rest), Over: r.Over}, b, strings.Clone(s)))
		room, text := laid(s)
		restRoom, rest := laid(r.Rest)
		before, restBefore := bytes.Clone(room), bytes.Clone(restRoom)
		q, n, oneErr := One(text, b)
		next, l, e := Feed(api.Reader{Rest: rest, Over: r.Over}, b, text)
		if !bytes.Equal(room, before) || !bytes.Equal(restRoom, restBefore) {
			t.Errorf("%.40q, %s: what was handed in is changed", s, show(r))
		}
		clear(room)
		clear(restRoom)
		if lookedOne(q, n, oneErr) != wantOne || lookedOne(One(s, b)) != wantOne {
			t.Errorf("One(%.40q, %d): an answer shares memory with what was handed in", s, b)
		}
		if lookedFeed(next, l, e) != wantFeed || lookedFeed(Feed(r, b, s)) != wantFeed {
			t.Errorf("Feed(%s, %d, %.40q): an answer shares memory with what was handed in", show(r), b, s)
		}
	})
}

// Answers are written over, their spare room too: no other one may change with them.
func TestP2ListsAreNew(t *testing.T) {
	for n := range 40 {
		s := times(n, first+times(n%31, "a: b\r\n")+"\r\n")
		_, firstAll, e := Feed(waiting(s), widest, "x")
		_, others, _ := Feed(waiting(s), widest, "x")
		if len(firstAll) != n || e != api.OK {
			t.Fatalf("%d requests instead of %d, %d", len(firstAll), n, e)
		}
		want := fmt.Sprintf("%q", others)
		for i, q := range firstAll {
			spoil(q.Head.Fields)
			if i+1 < n && fmt.Sprintf("%q", firstAll[i+1:]) != fmt.Sprintf("%q", others[i+1:]) {
				t.Errorf("request %d of %d shares memory with others", i, n)
			}
		}
		spare := firstAll[:cap(firstAll)]
		for i := range spare {
			spare[i] = request("spoilt", "x", "y")
		}
		_, third, _ := Feed(waiting(s), widest, "x")
		if fmt.Sprintf("%q", others) != want || fmt.Sprintf("%q", third) != want {
			t.Errorf("Feed of %d requests answers memory that is kept or shared", n)
		}
		q, _, _ := One(s, widest)
		again, _, _ := One(s, widest)
		spoil(q.Head.Fields)
		if n > 0 && !same(again, third[0]) {
			t.Errorf("One of %d requests answers memory that is kept or shared", n)
		}
	}
}

func spoil(fields []api.Field) {
	fields = fields[:cap(fields)]
	for i := range fields {
		fields[i] = field("x", "y")
	}
}

func TestP2TheSameIsAnsweredAgain(t *testing.T) {
	var asked []func() string
	var answered []string
	odd(func(r api.Reader, b api.Bounds, s string) {
		ask := func() string { return looked(r, b, s) }
		asked, answered = append(asked, ask), append(answered, ask())
	})
	for i, ask := range slices.Backward(asked) {
		if ask() != answered[i] {
			t.Errorf("call %d: an answer hangs on earlier calls", i)
		}
	}
}
