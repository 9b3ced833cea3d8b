package frame

import (
	"bytes"
	"fmt"
	"math"
	"slices"
	"strings"
	"testing"
	"unsafe"

	"gatewicket/api"
)

func oddTexts() []string {
	every := make([]byte, 256)
	for i := range every {
		every[i] = byte(i)
	}
	return []string{
		"", "a", "0", "7", "07", ":", "\r", "\n", "\r\n", "\r\n\r\n", " ", "chunked", "CHUNKED", "Content-Length", "Transfer-Encoding", "\x00", "\xff", "\xf0\x9f\x98", string(every),
		"0\r\n\r\n", "2\r\nab\r\n0\r\n\r\n", "1\r\na\r\n1\r\nb\r\n0\r\n\r\nrest", "2\r\nab\r\n", "2\r\nab", "fffffff\r\n", "fffffff\r\nx", "00000000\r\n\r\n", "ffffffff\r\n", "g\r\n", "0\r\nx",
		times(100000, "0"), times(100000, "a"), times(100000, "\r\n"), times(100000, "\xff"), times(10000, "1\r\na\r\n"), times(10000, "1\r\na\r\n") + "0\r\n\r\n", "1000\r\n" + times(4096, "\n") + "\r\n0\r\n\r\n",
	}
}

func oddSizes() [][]int {
	return [][]int{nil, {}, {0}, {1}, {-1}, {math.MaxInt}, {math.MinInt}, {1, 2, 3}, {math.MaxInt, math.MaxInt, math.MinInt}, {1, math.MaxInt, 1}, {math.MinInt, math.MinInt, 7}, slices.Repeat([]int{3}, 1000)}
}

func oddHeads() []api.Head {
	all := []api.Head{{}, with(), {Fields: slices.Repeat([]api.Field{field("content-length", "7")}, 10000)}, {Fields: slices.Repeat([]api.Field{{}}, 10000)}}
	for _, s := range oddTexts() {
		all = append(all, with(s, s), with("Content-Length", s), with("content-length", s, "Content-Length", s), with("Transfer-Encoding", s), with(s, "7", s, "chunked"), api.Head{Method: s, Target: s})
	}
	return all
}

// framed calls everything of chapter 10 that takes a text and tells what was
// answered.
func framed(s string, most int, sizes []int) string {
	b, n, e := Chunks(s, most)
	return fmt.Sprintf("%q %d %d %q", b, n, e, Chunked(s, sizes))
}

func looked(h api.Head) string {
	b, e := Of(h)
	return fmt.Sprint(b, e)
}

func TestP1EachCallAnswers(t *testing.T) {
	for _, s := range oddTexts() {
		for _, most := range []int{math.MinInt, -1, 0, 1, 2, 4096, math.MaxInt} {
			Chunks(s, most)
		}
		for _, sizes := range oddSizes() {
			Chunked(s, sizes)
		}
	}
	for _, h := range oddHeads() {
		looked(h)
	}
}

// Beside an error there is nothing else.
func TestNothingBesideAnError(t *testing.T) {
	for _, s := range oddTexts() {
		for _, most := range []int{-1, 0, 1, 4096} {
			if b, n, e := Chunks(s, most); e != api.OK && (b != "" || n != 0) {
				t.Errorf("Chunks(%.40q, %d) tells %.40q and %d beside %d", s, most, b, n, e)
			}
		}
	}
	for _, h := range oddHeads() {
		if b, e := Of(h); e != api.OK && b != (api.Body{}) {
			t.Errorf("Of(%.40q) tells %d beside %d", h, b, e)
		}
	}
}

// laid is s over bytes that the test can write to, with room behind.
func laid(s string) ([]byte, string) {
	room := append([]byte(s), "\r\nbehind"...)
	return room, unsafe.String(&room[0], len(s))
}

// What is answered of a text is held as it came, and told only when the text
// has been written over.
func TestP2NoTextIsChangedKeptOrShared(t *testing.T) {
	for _, s := range oddTexts() {
		for _, sizes := range [][]int{nil, {1}, {2, 3}} {
			want := framed(strings.Clone(s), 4096, sizes)
			room, text := laid(s)
			before := bytes.Clone(room)
			b, n, e := Chunks(text, 4096)
			chunks := Chunked(text, sizes)
			if !bytes.Equal(room, before) {
				t.Errorf("%.40q: what was handed in is changed", s)
			}
			clear(room)
			if got := fmt.Sprintf("%q %d %d %q", b, n, e, chunks); got != want || framed(s, 4096, sizes) != want {
				t.Errorf("%.40q: an answer shares memory with what was handed in", s)
			}
		}
	}
}

func TestP2NoHeadIsChangedOrKept(t *testing.T) {
	for _, c := range oddHeads() {
		var rooms [][]byte
		lay := func(s string) string {
			room, text := laid(s)
			rooms = append(rooms, room)
			return text
		}
		h := api.Head{Method: lay(c.Method), Target: lay(c.Target)}
		for _, f := range c.Fields {
			h.Fields = append(h.Fields, field(lay(f.Name), lay(f.Value)))
		}
		before := bytes.Join(rooms, nil)
		got := looked(h)
		if !bytes.Equal(bytes.Join(rooms, nil), before) {
			t.Errorf("%.40q: what was handed in is changed", c)
		}
		for _, room := range rooms {
			clear(room)
		}
		if again := looked(c); again != got {
			t.Errorf("%.40q: answered %s, then %s", c, got, again)
		}
	}
}

// Lists are handed in with room behind them.
func TestP2NoListIsChanged(t *testing.T) {
	for _, h := range oddHeads() {
		room := append(slices.Clone(h.Fields), field("Content-Length", "8"), field("Transfer-Encoding", "chunked"))
		before := slices.Clone(room)
		roomy := api.Head{Method: h.Method, Target: h.Target, Fields: room[:len(h.Fields)]}
		if looked(roomy) != looked(h) {
			t.Errorf("%.40q: an answer hangs on the room behind", h)
		}
		if !slices.Equal(room, before) {
			t.Errorf("%.40q: what was handed in is changed", h)
		}
	}
	for _, sizes := range oddSizes() {
		for _, s := range oddTexts() {
			room := append(slices.Clone(sizes), 1, 2, -3)
			before := slices.Clone(room)
			if Chunked(s, room[:len(sizes)]) != Chunked(s, slices.Clip(slices.Clone(sizes))) {
				t.Errorf("%.40q, %.40d: an answer hangs on the room behind", s, sizes)
			}
			if !slices.Equal(room, before) {
				t.Errorf("%.40q, %.40d: what was handed in is changed", s, sizes)
			}
		}
	}
}

func TestP2TheSameIsAnsweredAgain(t *testing.T) {
	var first []string
	for _, s := range oddTexts() {
		first = append(first, framed(s, 4096, []int{1, 2}))
	}
	for _, h := range oddHeads() {
		first = append(first, looked(h))
	}
	for _, h := range slices.Backward(oddHeads()) {
		last := len(first) - 1
		if looked(h) != first[last] {
			t.Errorf("%.40q: an answer hangs on earlier calls", h)
		}
		first = first[:last]
	}
	for _, s := range slices.Backward(oddTexts()) {
		last := len(first) - 1
		if framed(s, 4096, []int{1, 2}) != first[last] {
			t.Errorf("%.40q: an answer hangs on earlier calls", s)
		}
		first = first[:last]
	}
}
