package octet

import (
	"fmt"
	"strings"
	"testing"

	"gatewicket/api"
)

func TestQuote(t *testing.T) {
	for s, want := range map[string]string{
		"": "-", "-": `\-`, "--": "--", "a-b": "a-b", "-a": "-a", "a b": `a\sb`, "- ": `-\s`,
		"\n\r\t ": `\n\r\t\s`, `\`: `\\`, `\n`: `\\n`, "\x00\\\xff": `\x00\\\xff`, "\x1f!~\x7f\x80": `\x1f!~\x7f\x80`,
		"\xc3\xa9": `\xc3\xa9`, "\x0b\x0c\xab\xef": `\x0b\x0c\xab\xef`, `"'`: `"'`,
	} {
		if got := Quote(s); got != want {
			t.Errorf("Quote(%q) = %q; want %q", s, got, want)
		}
		if got, e := Unquote(want); got != s || e != api.OK {
			t.Errorf("Unquote(%q) = %q, %d; want %q", want, got, e, s)
		}
	}
}

// plainQuote writes one byte that does not stand alone, as P5 tells it.
func plainQuote(c byte) string {
	switch {
	case c == 10:
		return "\\n"
	case c == 13:
		return "\\r"
	case c == 9:
		return "\\t"
	case c == 32:
		return "\\s"
	case c == 92:
		return "\\\\"
	case c < 33 || c > 126:
		return fmt.Sprintf("\\x%02x", c)
	}
	return string([]byte{c})
}

func TestQuoteOfAllShortTexts(t *testing.T) {
	for a := range 256 {
		for b := range 256 {
			s := string([]byte{byte(a), byte(b)})
			want := plainQuote(byte(a)) + plainQuote(byte(b))
			if got := Quote(s); got != want {
				t.Fatalf("Quote(%q) = %q; want %q", s, got, want)
			}
			if got, e := Unquote(want); got != s || e != api.OK {
				t.Fatalf("Unquote(%q) = %q, %d; want %q", want, got, e, s)
			}
		}
	}
}

func TestUnquoteOfLongerWritings(t *testing.T) {
	for s, want := range map[string]string{
		`\-`: "-", `a\-b`: "a-b", `\-\-`: "--", `-\-`: "--", "--": "--", `\x2d`: "-", `\x41`: "A", `\x20\x0a`: " \n", `\x5c`: `\`, `\x5cn`: `\n`,
		`\x5c\x78`: `\x`, `\\x41`: `\x41`, `\xabc`: "\xabc", `\x00`: "\x00",
	} {
		if got, e := Unquote(s); got != want || e != api.OK {
			t.Errorf("Unquote(%q) = %q, %d; want %q", s, got, e, want)
		}
	}
}

func TestUnquoteRefuses(t *testing.T) {
	for _, s := range []string{
		"", " ", "a b", "a\n", "\t", "\x00", "\x1f", "\x7f", "\x80", "a\xff", "\xc3\xa9",
		`\`, `a\`, `\\\`, `\q`, `\N`, `\X41`, `\0`, `\"`, "\\ ", "\\\n",
		`\x`, `\x4`, `a\x4`, `\xg0`, `\x0g`, `\xAB`, `\xaB`, `\xAb`, `\x 1`, `\x-1`, `\x\\`, `-\`,
	} {
		if got, e := Unquote(s); got != "" || e != api.ErrSyntax {
			t.Errorf("Unquote(%q) = %q, %d; want ErrSyntax", s, got, e)
		}
	}
}

func TestUnquoteOfOneSignBehindABackslash(t *testing.T) {
	stands := map[byte]string{'n': "\n", 'r': "\r", 't': "\t", 's': " ", '\\': "\\", '-': "-"}
	for i := range 256 {
		want, wantErr := "", api.ErrSyntax
		if s, ok := stands[byte(i)]; ok {
			want, wantErr = s, api.OK
		}
		if got, e := Unquote(string([]byte{'\\', byte(i)})); got != want || e != wantErr {
			t.Errorf("Unquote of a backslash and byte %d is %q, %d", i, got, e)
		}
	}
}

// What Unquote takes must be a writing of what it answers: word by word from the pieces that P5 tells.
func TestUnquoteOfAllShortWords(t *testing.T) {
	for _, s := range wordsOf("\\-xn1aA ", 5) {
		want, wantErr := plainUnquote(s)
		if got, e := Unquote(s); got != want || e != wantErr {
			t.Fatalf("Unquote(%q) = %q, %d; want %q, %d", s, got, e, want, wantErr)
		}
	}
}

func plainUnquote(s string) (string, api.Errno) {
	if s == "-" {
		return "", api.OK
	}
	pieces := map[string]string{"-": "-", "x": "x", "n": "n", "1": "1", "a": "a", "A": "A", `\n`: "\n", `\\`: `\`, `\-`: "-",
		`\x11`: "\x11", `\x1a`: "\x1a", `\xa1`: "\xa1", `\xaa`: "\xaa"}
	if s == "" {
		return "", api.ErrSyntax
	}
	text := ""
next:
	for s != "" {
		for _, size := range []int{1, 2, 4} {
			if size > len(s) {
				break
			}
			if c, ok := pieces[s[:size]]; ok {
				text += c
				s = s[size:]
				continue next
			}
		}
		return "", api.ErrSyntax
	}
	return text, api.OK
}

func TestQuoteIsAWord(t *testing.T) {
	for _, s := range oddTexts() {
		word := Quote(s)
		if word == "" || strings.ContainsFunc(word, func(r rune) bool { return r < 33 || r > 126 }) {
			t.Errorf("Quote(%q) = %q is no word", s, word)
		}
		if got, e := Unquote(word); got != s || e != api.OK {
			t.Errorf("Unquote(Quote(%q)) = %q, %d", s, got, e)
		}
	}
}
