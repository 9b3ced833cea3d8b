package octet

import "unicode/utf8"

// Utf8: whether all of s is UTF-8 and, if not, where the first byte stands at which no whole sequence begins (P4).
func Utf8(s string) (bool, int) {
	for at := 0; at < len(s); {
		r, size := utf8.DecodeRuneInString(s[at:])
		// The sign of an error may also stand in s itself, as three bytes.
		if r == utf8.RuneError && size == 1 {
			return false, at
		}
		at += size
	}
	return true, 0
}
