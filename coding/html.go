package coding

import (
	"strings"

	"gatewicket/api"
	"gatewicket/octet"
)

// longestSign is the size of the longest writings, as of &quot; and of &#255; and of &#xff;.
const longestSign = 6

// HtmlDecode: s with each sign that is written by a name or a number as that byte (P8).
func HtmlDecode(s string) string {
	var b []byte
	for at := 0; at < len(s); {
		c, size := htmlSign(s[at:])
		b = append(b, c)
		at += size
	}
	return string(b)
}

// htmlSign answers the byte with which s, which isn't empty, begins, and how
// many bytes of s write it: one, if it stands for itself.
func htmlSign(s string) (byte, int) {
	end := strings.IndexByte(s[:min(longestSign, len(s))], ';')
	if s[0] == '&' && end > 0 {
		if c, ok := named(s[1:end]); ok {
			return c, end + 1
		}
	}
	return s[0], 1
}

// named answers the byte that a name or number between & and ; stands for.
// It has at most four bytes, so that no number has too many digits.
func named(name string) (byte, bool) {
	switch name {
	case "lt":
		return '<', true
	case "gt":
		return '>', true
	case "amp":
		return '&', true
	case "quot":
		return '"', true
	}
	if digits, ok := strings.CutPrefix(name, "#x"); ok {
		n, e := octet.Hex(digits)
		return byte(n), e == api.OK
	}
	if digits, ok := strings.CutPrefix(name, "#"); ok {
		n, e := octet.Dec(digits)
		return byte(n), e == api.OK && n < 256
	}
	return 0, false
}
