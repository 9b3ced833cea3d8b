package rex

import (
	"fmt"
	"strings"
	"testing"

	"gatewicket/api"
)

func checkPrint(t *testing.T, r api.Rex, want string) {
	t.Helper()
	if got, e := Print(r); got != want || e != api.OK {
		t.Fatalf("Print(%s) = %q, %d; want %q", show(r), got, e, want)
	}
}

func TestPrint(t *testing.T) {
	a, b, c, empty, none := sign("a"), sign("b"), sign("c"), leaf(api.REmpty), leaf(api.RNone)
	begin, end := leaf(api.RBegin), leaf(api.REnd)
	for _, x := range []struct {
		r    api.Rex
		want string
	}{
		{none, "[^\\x00-\\xff]"}, {empty, ""}, {begin, "^"}, {end, "$"}, {a, "a"},
		{star(a), "a*"}, {star(none), "[^\\x00-\\xff]*"}, {star(begin), "^*"}, {star(end), "$*"}, {star(sign("ab")), "[ab]*"}, {star(empty), "()*"}, {star(cat(a, b)), "(ab)*"}, {star(alt(a, b)), "(a|b)*"}, {star(star(a)), "(a*)*"}, {stars(4, a), "(((a*)*)*)*"},
		{cat(a, b), "ab"}, {cat(cat(a, b), c), "abc"}, {cat(a, cat(b, c)), "a(bc)"}, {cat(cat(a, b), cat(b, c)), "ab(bc)"}, {cat(empty, a), "()a"}, {cat(a, empty), "a()"}, {cat(empty, empty), "()()"}, {cat(alt(a, b), c), "(a|b)c"}, {cat(a, alt(b, c)), "a(b|c)"}, {cat(star(a), star(b)), "a*b*"}, {cat(none, none), "[^\\x00-\\xff][^\\x00-\\xff]"}, {cat(begin, end), "^$"}, {cat(a, star(a)), "aa*"}, {cat(alt(a, empty), b), "(a|)b"}, {cat(a, alt(empty, b)), "a(|b)"},
		{alt(a, b), "a|b"}, {alt(alt(a, b), c), "a|b|c"}, {alt(a, alt(b, c)), "a|(b|c)"}, {alt(alt(a, b), alt(b, c)), "a|b|(b|c)"}, {alt(empty, a), "|a"}, {alt(a, empty), "a|"}, {alt(empty, empty), "|"}, {alt(a, alt(empty, empty)), "a|(|)"}, {alt(cat(a, b), cat(b, c)), "ab|bc"}, {alt(star(a), star(b)), "a*|b*"}, {alt(none, end), "[^\\x00-\\xff]|$"}, {alt(alt(a, empty), empty), "a||"}, {alt(cat(a, cat(b, c)), c), "a(bc)|c"},
		{notOf(sign("\n")), "."}, {sign("."), "\\."}, {span(0, 255), "[\\x00-\\xff]"}, {notOf(a), "[^a]"}, {notOf(sign("\r")), "[^\\r]"}, {notOf(sign("\n\r")), "[^\\n\\r]"},
		{sign("ab"), "[ab]"}, {sign("abc"), "[a-c]"}, {sign("ac"), "[ac]"}, {sign("abd"), "[abd]"}, {sign("abcx"), "[a-cx]"}, {sign("xyz_ab09"), "[09_abx-z]"}, {sign("0123456789"), "[0-9]"}, {sign(wordLetters()), "[0-9A-Z_a-z]"}, {sign("\t\n\v\f\r "), "[\\t-\\r\\x20]"}, {sign("-."), "[\\-\\.]"}, {sign("[]^-\\"), "[\\-\\[-\\^]"}, {sign("\n-"), "[\\n\\-]"}, {sign("\xfe\xff"), "[\\xfe\\xff]"}, {sign("\xfd\xfe\xff"), "[\\xfd-\\xff]"}, {sign("\x00\x01"), "[\\x00\\x01]"}, {sign("\x00\x02\xff"), "[\\x00\\x02\\xff]"}, {sign("*+"), "[\\*\\+]"},
		{span(0, 126), "[\\x00-~]"}, {span(0, 127), "[\\x00-\\x7f]"}, {span(0, 128), "[^\\x81-\\xff]"}, {span(128, 255), "[\\x80-\\xff]"}, {span(127, 255), "[^\\x00-~]"}, {span(0, 254), "[^\\xff]"}, {span(1, 255), "[^\\x00]"}, {span(2, 255), "[^\\x00\\x01]"},
	} {
		checkPrint(t, x.r, x.want)
	}
}

// plainChar is a byte as P18 tells it.
func plainChar(c int) string {
	s := string([]byte{byte(c)})
	switch {
	case c == 10:
		return "\\n"
	case c == 9:
		return "\\t"
	case c == 13:
		return "\\r"
	case c < 33 || c > 126:
		return fmt.Sprintf("\\x%02x", c)
	case strings.Contains("()[]|*+?.^$-\\", s):
		return "\\" + s
	}
	return s
}

// plainItems are the ITEMs of bytes as P18 tells it.
func plainItems(in [256]bool) string {
	var text string
	for c := 0; c < 256; {
		n := 0
		for c+n < 256 && in[c+n] {
			n++
		}
		switch n {
		case 0:
			n = 1
		case 1:
			text += plainChar(c)
		case 2:
			text += plainChar(c) + plainChar(c+1)
		default:
			text += plainChar(c) + "-" + plainChar(c+n-1)
		}
		c += n
	}
	return text
}

func plainSet(in [256]bool) string {
	var other [256]bool
	n := 0
	for c := range in {
		other[c] = !in[c]
		if in[c] {
			n++
		}
	}
	switch {
	case n == 1:
		return plainItems(in)
	case n == 255 && other[10]:
		return "."
	case n > 128 && n != 256:
		return "[^" + plainItems(other) + "]"
	}
	return "[" + plainItems(in) + "]"
}

// checkSet prints an RByte of these bytes, and reads it again, if it isn't too long.
func checkSet(t *testing.T, in [256]bool) {
	t.Helper()
	var b []byte
	for c := range in {
		if in[c] {
			b = append(b, byte(c))
		}
	}
	text := plainSet(in)
	checkPrint(t, sign(string(b)), text)
	if len(text) <= 200 {
		checkParse(t, text, sign(string(b)))
	} else {
		checkParseErr(t, text, 0, api.ErrLarge)
	}
}

func TestPrintOfRowsOfBytes(t *testing.T) {
	for first := range 256 {
		for last := first; last < 256; last++ {
			var in, out [256]bool
			for c := range in {
				in[c] = first <= c && c <= last
				out[c] = !in[c]
			}
			checkSet(t, in)
			if last-first < 255 {
				checkSet(t, out)
			}
		}
	}
}

func TestPrintOfPairsOfBytes(t *testing.T) {
	for a := range 256 {
		for b := range a {
			var in, out [256]bool
			for c := range in {
				in[c] = c == a || c == b
				out[c] = !in[c]
			}
			checkSet(t, in)
			checkSet(t, out)
		}
	}
}

func TestPrintOfMixedSets(t *testing.T) {
	pick := picker(10)
	for round := range 3000 {
		var in [256]bool
		in[pick(256)] = true
		for range pick(60) {
			first, is := pick(256), pick(3) > 0
			for c := first; c < min(256, first+1+pick(1+round%30)); c++ {
				in[c] = is
			}
		}
		in[pick(256)] = true
		checkSet(t, in)
	}
	var even, odd [256]bool
	for c := range 256 {
		even[c], odd[c] = c%2 == 0, c%2 == 1
	}
	checkSet(t, even)
	checkSet(t, odd)
	even[1], odd[0] = true, true
	checkSet(t, even)
	checkSet(t, odd)
}

// What is printed is read as the same expression: all small ones without RNone.
func TestPrintIsReadAgain(t *testing.T) {
	leaves := append(sixLeaves()[1:], span(0, 255), notOf(sign("\n")), sign("\\"))
	for n := 1; n <= 4; n++ {
		for _, r := range small(n, leaves) {
			text, _ := Print(r)
			checkParse(t, text, r)
		}
	}
	for n := 5; n <= 7; n++ {
		for _, r := range small(n, []api.Rex{sign("a"), leaf(api.REmpty)}) {
			text, _ := Print(r)
			checkParse(t, text, r)
		}
	}
}

func hasNone(r api.Rex) bool {
	for _, kid := range r.Kids {
		if hasNone(kid) {
			return true
		}
	}
	return r.Kind == api.RNone
}

func TestPrintOfMixedOnes(t *testing.T) {
	pick := picker(11)
	read := 0
	for range 4000 {
		r := mixed(pick, 1+pick(80))
		text, e := Print(r)
		if want := Check(r); e != want || e != api.OK && text != "" {
			t.Fatalf("Print(%s) = %q, %d; want %d", show(r), text, e, want)
		}
		if e != api.OK || len(text) > 200 {
			continue
		}
		if hasNone(r) {
			checkParseErr(t, text, strings.Index(text, "[^\\x00-\\xff]")+11, api.ErrSyntax)
			continue
		}
		read++
		checkParse(t, text, r)
	}
	if read < 500 {
		t.Errorf("only %d were read again", read)
	}
}

// Without any pair of brackets a text is that of another expression, or of none.
func TestPrintHasNoBracketTooMany(t *testing.T) {
	for n := 1; n <= 5; n++ {
		for _, r := range small(n, []api.Rex{sign("a"), leaf(api.REmpty), leaf(api.RBegin)}) {
			text, _ := Print(r)
			for from := range len(text) {
				if text[from] != '(' {
					continue
				}
				to := closing(text, from)
				less := text[:from] + text[from+1:to] + text[to+1:]
				// A star of a star is read without brackets, too; P18 asks for them.
				if q, _, e := Parse(less); e == api.OK && same(q, r) && !strings.HasPrefix(text[to-1:], "*)*") {
					t.Fatalf("%q is read as %q", less, text)
				}
			}
		}
	}
}

func closing(text string, from int) int {
	open := 0
	for i := from; ; i++ {
		switch text[i] {
		case '(':
			open++
		case ')':
			open--
		}
		if open == 0 {
			return i
		}
	}
}

func TestPrintRefuses(t *testing.T) {
	for _, c := range wrongOnes() {
		if text, e := Print(c.r); e != c.want || e != api.OK && text != "" {
			t.Errorf("Print(%s) = %.100q, %d; want %d", show(c.r), text, e, c.want)
		}
	}
	for _, c := range goodOnes() {
		if _, e := Print(c.r); e != api.OK {
			t.Errorf("Print(%s) = %d", show(c.r), e)
		}
	}
}

// A text has no bound of its own: an expression of many sets has a long one.
func TestPrintOfLongTexts(t *testing.T) {
	var every []byte
	for c := 0; c < 256; c += 2 {
		every = append(every, byte(c))
	}
	set := sign(string(every))
	one, _ := Print(set)
	r := set
	for range 19 {
		r = cat(r, set)
	}
	checkPrint(t, r, strings.Repeat(one, 20))
}
