package octet

import (
	"bytes"
	"fmt"
	"math"
	"strings"
	"testing"
	"unsafe"
)

func oddTexts() []string {
	every := make([]byte, 256)
	for i := range every {
		every[i] = byte(i)
	}
	return []string{
		"", "-", "\\", "\\x", "\\xa", "\\x41", "a", "plain", " \t x \t ", " ", "12", "0000000012", "ff", "FFFFFFFFFF", "UPPER",
		"\x00", "\xff", "\xf0\x9f\x98", "\xc3\xa9", string(every), strings.Repeat("a", 100000), strings.Repeat("\xf0", 100000),
		strings.Repeat("\\", 100001), strings.Repeat(" ", 100000),
	}
}

// all calls everything that chapter 1 lists and tells what was answered.
func all(s, t string, from int) []string {
	dec, decErr := Dec(s)
	hex, hexErr := Hex(s)
	ok, at := Utf8(s)
	text, textErr := Unquote(s)
	numbers := fmt.Sprint(dec, decErr, hex, hexErr, Token(s), Find(s, t, from), ok, at, textErr)
	return []string{numbers, Lower(s), Trim(s), Quote(s), text}
}

func TestP1EachCallAnswers(t *testing.T) {
	for _, s := range oddTexts() {
		for _, part := range oddTexts() {
			for _, from := range []int{math.MinInt, -1, 0, 1, len(s) - 1, len(s), len(s) + 1, math.MaxInt} {
				Find(s, part, from)
			}
		}
		all(s, "a", 0)
	}
}

// A text is laid over bytes that the test can write to, so that it shows
// whether a call changes them, and whether an answer changes with them.
func TestP2NothingIsChangedKeptOrShared(t *testing.T) {
	for _, s := range oddTexts() {
		if s == "" {
			continue
		}
		want := all(strings.Clone(s), "a", 0)
		room := append([]byte(s), "behind"...)
		before := bytes.Clone(room)
		got := all(unsafe.String(&room[0], len(s)), "a", 0)
		if !bytes.Equal(room, before) {
			t.Errorf("%.40q: what was handed in is changed", s)
		}
		for i := range room {
			room[i] = '#'
		}
		for i := range want {
			if got[i] != want[i] {
				t.Errorf("%.40q: answer %d shares memory with what was handed in", s, i)
			}
		}
	}
}

func TestP2TheSameIsAnsweredAgain(t *testing.T) {
	texts := oddTexts()
	first := make([][]string, len(texts))
	for i, s := range texts {
		first[i] = all(s, "a", 0)
	}
	for i := len(texts) - 1; i >= 0; i-- {
		for k, again := range all(texts[i], "a", 0) {
			if again != first[i][k] {
				t.Errorf("%.40q: answer %d hangs on earlier calls", texts[i], k)
			}
		}
	}
}
