package clean

import (
	"regexp"
	"testing"

	"gatewicket/octet"
)

func checkText(t *testing.T, name, s, got, want string) {
	t.Helper()
	if got != want {
		t.Errorf("%s(%q) = %q; want %q", name, s, got, want)
	}
}

func TestSqueeze(t *testing.T) {
	for s, want := range map[string]string{
		"": "", "a": "a", " ": " ", "  ": " ", "\t": " ", "\n": " ", "\v": " ", "\f": " ", "\r": " ", "\r\n": " ", "\t\n\v\f\r ": " ", " \t \t": " ",
		"a b": "a b", "a  b": "a b", "a\tb": "a b", " a ": " a ", "\n\na\n\n": " a ", "\t a\n\n b ": " a b ", "a b c": "a b c", "a \t b\r\n c": "a b c",
		"\x08\x0e": "\x08\x0e", "a\x00 \x00b": "a\x00 \x00b", " \x1f \x21 ": " \x1f \x21 ", "\x85": "\x85", "\xa0": "\xa0", "\u0085": "\u0085", "\u00a0\u2003": "\u00a0\u2003", "+": "+", "%20": "%20", "\xff \xff": "\xff \xff",
	} {
		checkText(t, "Squeeze", s, Squeeze(s), want)
	}
}

func TestSqueezeOfEachByte(t *testing.T) {
	for i := range 256 {
		c := oneByte(i)
		one, two := c, c+c
		if i == 9 || i == 10 || i == 11 || i == 12 || i == 13 || i == 32 {
			one, two = " ", " "
		}
		checkText(t, "Squeeze", c, Squeeze(c), one)
		s := "a" + c + c + "b" + c
		checkText(t, "Squeeze", s, Squeeze(s), "a"+two+"b"+one)
		for _, s := range []string{" " + c + " ", c + "\t" + c, c + c + "\n"} {
			checkText(t, "Squeeze", s, Squeeze(s), plainSqueeze(s))
		}
	}
}

func TestSqueezeOfAllShortTexts(t *testing.T) {
	for _, s := range wordsOf([]string{" ", "\t", "\n", "a"}, 7) {
		checkText(t, "Squeeze", s, Squeeze(s), plainSqueeze(s))
	}
}

func TestNoNull(t *testing.T) {
	for s, want := range map[string]string{
		"": "", "a": "a", "\x00": "", "\x00\x00\x00": "", "a\x00b": "ab", "\x00a\x00\x00b\x00": "ab", "\x01\x00\x01": "\x01\x01", " \x00 ": "  ", "0": "0", `\0`: `\0`, "%00": "%00", "\xc0\x80": "\xc0\x80", "\xff\x00\xfe": "\xff\xfe",
	} {
		checkText(t, "NoNull", s, NoNull(s), want)
	}
}

func TestNoNullOfEachByte(t *testing.T) {
	for i := range 256 {
		s := "a" + oneByte(i) + "b" + oneByte(i)
		want := s
		if i == 0 {
			want = "ab"
		}
		checkText(t, "NoNull", s, NoNull(s), want)
	}
}

func TestCmd(t *testing.T) {
	for s, want := range map[string]string{
		"": "", "cat": "cat", "CAT": "cat", "C^at\"  ,/etc/P (": "cat/etc/p(", `c\a"t'^`: "cat", `\"'^`: "",
		"a,b;c": "a b c", ",": " ", ";": " ", ",;, ;": " ", "a,;b": "a b", "a;\tb": "a b", "a\n\nb": "a b", " a ": " a ",
		"a /b": "a/b", "a (b": "a(b", "a\t \n/b": "a/b", "a,/b;(c": "a/b(c", "a / b": "a/ b", "a ( b": "a( b", " /": "/", " (": "(", "/ ": "/ ", "( ": "( ", "a / /b": "a//b", "a ( (b": "a((b", " / ( /": "/(/", "a )b": "a )b", "a \\/b": "a/b",
		"a '/b": "a/b", "a \" (b": "a(b", "a ^ ^ /b": "a/b", " ^ ": " ", "a' 'b": "a b", "a^ \\ b": "a b",
		"(a;b)": "(a b)", "cmd.exe /C DIR": "cmd.exe/c dir", "a\x00 /": "a\x00/", "a \x00/": "a \x00/", "`a`": "`a`", "a&b|c": "a&b|c", "\xc9\xff": "\xc9\xff", "\u00c9 \u2215": "\u00c9 \u2215",
	} {
		checkText(t, "Cmd", s, Cmd(s), want)
	}
}

func TestCmdOfEachByte(t *testing.T) {
	for i := range 256 {
		c := oneByte(i)
		for _, s := range []string{c, c + c, "a" + c + "b", " " + c, c + " ", " " + c + " ", c + "/", c + "(", "a " + c + "/b", "a," + c + ";(b", " " + c + c + " /"} {
			checkText(t, "Cmd", s, Cmd(s), plainCmd(s))
		}
	}
}

func TestCmdOfAllShortTexts(t *testing.T) {
	for _, s := range wordsOf([]string{" ", ",", "^", "/", "(", "A"}, 6) {
		checkText(t, "Cmd", s, Cmd(s), plainCmd(s))
	}
	for _, s := range wordsOf([]string{"\n", ";", "\\", "'", "\"", "/"}, 5) {
		checkText(t, "Cmd", s, Cmd(s), plainCmd(s))
	}
}

// replaced lays the bytes of s out as runes, for an expression would take
// several bytes for one sign.
func replaced(s, expression, by string) string {
	var runes []rune
	for i := range len(s) {
		runes = append(runes, rune(s[i]))
	}
	var text []byte
	for _, r := range regexp.MustCompile(expression).ReplaceAllString(string(runes), by) {
		text = append(text, byte(r))
	}
	return string(text)
}

func plainSqueeze(s string) string { return replaced(s, `[\t\n\v\f\r ]+`, " ") }

func plainCmd(s string) string {
	s = replaced(s, `[\\"'^]`, "")
	s = replaced(s, `[,;]`, " ")
	s = plainSqueeze(s)
	return octet.Lower(replaced(s, ` ([/(])`, "$1"))
}
