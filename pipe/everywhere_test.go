package pipe

import (
	"bytes"
	"fmt"
	"slices"
	"strings"
	"testing"
	"unsafe"

	"gatewicket/api"
)

func oddTexts() []string {
	every := make([]byte, 256)
	for i := range every {
		every[i] = byte(i)
	}
	return []string{
		"", "-", "a", "plain", "lower", "url,lower", "lower,", ",", ",,,,,,,,", "%41+", "4a4B", "Zm9v", "&lt;", "/a/./b/../c", " \t x ", "\x00", "\xff", "\xf0\x9f\x98", "C^AT ,/", string(every),
		strings.Repeat("a", 8192), strings.Repeat("a", 8193), strings.Repeat("%", 8192), strings.Repeat("../", 2730), strings.Repeat("&#", 4096), strings.Repeat(",", 100000), strings.Repeat("\xff", 100000),
	}
}

func oddPipes() [][]int {
	pipes := append(pipesOf(1), []int{2, 2, 1, 5, 6, 7, 8, 9}, repeated(10, 8), repeated(3, 8), repeated(4, 8))
	for _, c := range wrongPipes() {
		pipes = append(pipes, c.l)
	}
	return pipes
}

// all calls everything that chapter 4 lists and tells what was answered.
func all(l []int, s string) []string {
	text, runErr := Run(l, s)
	printed, printErr := Print(l)
	parsed, parseErr := Parse(s)
	return []string{text, printed, fmt.Sprint(parsed), fmt.Sprint(Check(l), runErr, printErr, parseErr)}
}

func TestP1EachCallAnswers(t *testing.T) {
	for _, l := range oddPipes() {
		for _, s := range oddTexts() {
			all(l, s)
		}
	}
}

// A text is laid over bytes that the test can write to, so that it shows
// whether a call changes them, and whether an answer changes with them.
func TestP2NoTextIsChangedKeptOrShared(t *testing.T) {
	for _, l := range oddPipes() {
		for _, s := range oddTexts()[1:] {
			want := all(l, strings.Clone(s))
			room := append([]byte(s), "behind"...)
			before := bytes.Clone(room)
			got := all(l, unsafe.String(&room[0], len(s)))
			if !bytes.Equal(room, before) {
				t.Errorf("%.40q: what was handed in is changed", s)
			}
			for i := range room {
				room[i] = '#'
			}
			if !slices.Equal(got, want) {
				t.Errorf("%.12v, %.40q: an answer shares memory with what was handed in", l, s)
			}
		}
	}
}

func TestP2NoListIsChanged(t *testing.T) {
	for _, l := range oddPipes() {
		room := append(slices.Clone(l), 7, 8, 9)
		before := slices.Clone(room)
		all(room[:len(l)], "url,lower")
		if !slices.Equal(room, before) {
			t.Errorf("%.12v: what was handed in is changed", l)
		}
	}
}

func TestP2ListsOfAnswersShareNothing(t *testing.T) {
	for _, s := range []string{"-", "url", "url,lower,trim", "lower,url,hex,base,html,path,squeeze,cmd"} {
		first, _ := Parse(s)
		want := slices.Clone(first)
		second, _ := Parse(s)
		for i := range cap(first) {
			first[:cap(first)][i] = 99
		}
		third, e := Parse(s)
		if !slices.Equal(second, want) || !slices.Equal(third, want) || e != api.OK {
			t.Errorf("Parse(%q) answers memory that is kept or shared", s)
		}
	}
}

func TestP2TheSameIsAnsweredAgain(t *testing.T) {
	pipes, texts := oddPipes(), oddTexts()
	var first [][]string
	for _, l := range pipes {
		for _, s := range texts {
			first = append(first, all(l, s))
		}
	}
	for _, l := range slices.Backward(pipes) {
		for _, s := range slices.Backward(texts) {
			last := len(first) - 1
			if !slices.Equal(all(l, s), first[last]) {
				t.Errorf("%.12v, %.40q: an answer hangs on earlier calls", l, s)
			}
			first = first[:last]
		}
	}
}
