package octet

import "gatewicket/api"

// Quote: s as a word without blanks (P5).
func Quote(s string) string {
	switch s {
	case "":
		return "-"
	case "-":
		return `\-`
	}
	var b []byte
	for i := range len(s) {
		b = appendQuoted(b, s[i])
	}
	return string(b)
}

func appendQuoted(b []byte, c byte) []byte {
	const digits = "0123456789abcdef"
	switch {
	case c == '\n':
		return append(b, `\n`...)
	case c == '\r':
		return append(b, `\r`...)
	case c == '\t':
		return append(b, `\t`...)
	case c == ' ':
		return append(b, `\s`...)
	case c == '\\':
		return append(b, `\\`...)
	case !plain(c):
		return append(b, '\\', 'x', digits[c>>4], digits[c&15])
	}
	return append(b, c)
}

func plain(c byte) bool { return 33 <= c && c <= 126 }

// Unquote: the text that the word s stands for (P5).
func Unquote(s string) (string, api.Errno) {
	switch s {
	case "":
		return "", api.ErrSyntax
	case "-":
		return "", api.OK
	}
	var b []byte
	for at := 0; at < len(s); {
		c, size := unquoted(s[at:])
		if size == 0 {
			return "", api.ErrSyntax
		}
		b = append(b, c)
		at += size
	}
	return string(b), api.OK
}

// unquoted answers the byte with which s, which isn't empty, begins, and how
// many bytes of s write it: none, if s begins with no such writing.
func unquoted(s string) (byte, int) {
	switch {
	case s[0] != '\\':
		if plain(s[0]) {
			return s[0], 1
		}
	case len(s) >= 2 && s[1] == 'x':
		if c, ok := unquotedHex(s[2:]); ok {
			return c, 4
		}
	case len(s) >= 2:
		if c, ok := unquotedSign(s[1]); ok {
			return c, 2
		}
	}
	return 0, 0
}

func unquotedHex(s string) (byte, bool) {
	if len(s) < 2 {
		return 0, false
	}
	high, ok := digit(s[0])
	low, also := digit(s[1])
	if !ok || !also {
		return 0, false
	}
	return byte(high<<4 | low), true
}

func unquotedSign(c byte) (byte, bool) {
	switch c {
	case 'n':
		return '\n', true
	case 'r':
		return '\r', true
	case 't':
		return '\t', true
	case 's':
		return ' ', true
	case '\\', '-':
		return c, true
	}
	return 0, false
}
