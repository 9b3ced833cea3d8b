// Package octet: bytes: see doc/01-octet.md.
package octet

import (
	"strings"

	"gatewicket/api"
)

const (
	mostDec = 9 // digits of a decimal number
	mostHex = 7 // digits of a number in base 16
)

// Dec: the number that s writes in decimal (P3).
func Dec(s string) (int, api.Errno) { return number(s, 10, mostDec) }

// Hex: the number that s writes in base 16, letters small or capital (P3).
func Hex(s string) (int, api.Errno) { return number(s, 16, mostHex) }

func number(s string, base, most int) (int, api.Errno) {
	if len(s) < 1 || len(s) > most {
		return 0, api.ErrForm
	}
	n := 0
	for i := range len(s) {
		d, ok := digit(small(s[i]))
		if !ok || d >= base {
			return 0, api.ErrForm
		}
		n = n*base + d
	}
	return n, api.OK
}

// digit takes small letters alone: Unquote must refuse the capital ones.
func digit(c byte) (int, bool) {
	switch {
	case '0' <= c && c <= '9':
		return int(c - '0'), true
	case 'a' <= c && c <= 'f':
		return int(c-'a') + 10, true
	}
	return 0, false
}

// Lower: s with its letters A to Z as small ones (P3).
func Lower(s string) string {
	b := []byte(s)
	for i, c := range b {
		b[i] = small(c)
	}
	return string(b)
}

func small(c byte) byte {
	if 'A' <= c && c <= 'Z' {
		return c - 'A' + 'a'
	}
	return c
}

// Token: whether s has a byte at least, and each may stand in the name of a field (P3).
func Token(s string) bool {
	for i := range len(s) {
		if !inToken(s[i]) {
			return false
		}
	}
	return len(s) > 0
}

func inToken(c byte) bool {
	l := small(c)
	return 'a' <= l && l <= 'z' || '0' <= c && c <= '9' || strings.IndexByte("!#$%&'*+-.^_|~`", c) >= 0
}

// Find: the first place from from on at which t stands in s, or -1 (P3).
func Find(s, t string, from int) int {
	from = max(from, 0)
	if from > len(s) {
		return -1
	}
	at := strings.Index(s[from:], t)
	if at < 0 {
		return -1
	}
	return from + at
}

// Trim: s without the bytes 9 and 32 at its ends (P3).
func Trim(s string) string {
	// A piece of s would share its memory (P2).
	return strings.Clone(strings.Trim(s, "\t "))
}
