package clean

import (
	"bytes"
	"strings"
	"testing"
	"unsafe"
)

func oddTexts() []string {
	every := make([]byte, 256)
	for i := range every {
		every[i] = byte(i)
	}
	return []string{
		"", "a", "plain", "/", "..", "../..", "/a/./b/../c", "a/", "a/..", " ", "\t\n", "a b", "\x00", "a\x00b", "^", "C^AT ,/", " (", "\xff", "\xf0\x9f\x98", string(every),
		strings.Repeat("a", 100000), strings.Repeat("/", 100000), strings.Repeat("../", 100000), strings.Repeat("a/", 100000) + strings.Repeat("../", 100001),
		strings.Repeat(" ", 100000), strings.Repeat(" /", 100000), strings.Repeat("\x00", 100000), strings.Repeat("\xff", 100000),
	}
}

// all calls everything that chapter 3 lists and tells what was answered.
func all(s string) []string { return []string{Path(s), Squeeze(s), NoNull(s), Cmd(s)} }

func TestP1EachCallAnswers(t *testing.T) {
	for _, s := range oddTexts() {
		all(s)
	}
	for _, s := range wordsOf([]string{"/", ".", " ", ",", "\\", "\x00", "\xff"}, 4) {
		all(s)
	}
}

// A text is laid over bytes that the test can write to, so that it shows
// whether a call changes them, and whether an answer changes with them.
func TestP2NothingIsChangedKeptOrShared(t *testing.T) {
	for _, s := range oddTexts() {
		if s == "" {
			continue
		}
		want := all(strings.Clone(s))
		room := append([]byte(s), "behind"...)
		before := bytes.Clone(room)
		got := all(unsafe.String(&room[0], len(s)))
		if !bytes.Equal(room, before) {
			t.Errorf("%.40q: what was handed in is changed", s)
		}
		for i := range room {
			room[i] = '#'
		}
		for i := range want {
			if got[i] != want[i] {
				t.Errorf("%.40q: answer %d shares memory with what was handed in", s, i)
			}
		}
	}
}

func TestP2TheSameIsAnsweredAgain(t *testing.T) {
	texts := oddTexts()
	first := make([][]string, len(texts))
	for i, s := range texts {
		first[i] = all(s)
	}
	for i := len(texts) - 1; i >= 0; i-- {
		for k, again := range all(texts[i]) {
			if again != first[i][k] {
				t.Errorf("%.40q: answer %d hangs on earlier calls", texts[i], k)
			}
		}
	}
}
