package octet

import "testing"

type byteRange struct{ low, high byte }

// The sequences as P4 tells them, each by the ranges of its bytes.
func sequences() [][]byteRange {
	rest := byteRange{0x80, 0xbf}
	return [][]byteRange{
		{{0x00, 0x7f}},
		{{0xc2, 0xdf}, rest},
		{{0xe0, 0xe0}, {0xa0, 0xbf}, rest},
		{{0xe1, 0xec}, rest, rest},
		{{0xed, 0xed}, {0x80, 0x9f}, rest},
		{{0xee, 0xef}, rest, rest},
		{{0xf0, 0xf0}, {0x90, 0xbf}, rest, rest},
		{{0xf1, 0xf3}, rest, rest, rest},
		{{0xf4, 0xf4}, {0x80, 0x8f}, rest, rest},
	}
}

func begins(s []byte, sequence []byteRange) bool {
	if len(s) < len(sequence) {
		return false
	}
	for i, r := range sequence {
		if s[i] < r.low || s[i] > r.high {
			return false
		}
	}
	return true
}

func plainUtf8(s []byte, all [][]byteRange) (bool, int) {
	at := 0
next:
	for at < len(s) {
		for _, q := range all {
			if begins(s[at:], q) {
				at += len(q)
				continue next
			}
		}
		return false, at
	}
	return true, 0
}

func checkUtf8(t *testing.T, s []byte, all [][]byteRange) {
	t.Helper()
	want, wantAt := plainUtf8(s, all)
	if ok, at := Utf8(string(s)); ok != want || at != wantAt {
		t.Fatalf("Utf8(%q) = %v, %d; want %v, %d", s, ok, at, want, wantAt)
	}
}

func TestUtf8(t *testing.T) {
	for _, c := range []struct {
		s  string
		ok bool
		at int
	}{
		{"", true, 0}, {"abc", true, 0}, {"\x00\x7f", true, 0},
		{"a\xc3\xa9\xf0\x9f\x98\x80", true, 0}, {"\xef\xbf\xbd", true, 0}, {"\xef\xbf\xbf", true, 0}, {"\xf4\x8f\xbf\xbf", true, 0},
		{"\x80", false, 0}, {"a\xbf", false, 1}, {"ab\xff", false, 2}, {"\xc3\xa9\xc3", false, 2}, {"\xc3\xa9\xa9", false, 2},
		{"\xc0\x80", false, 0}, {"\xc1\xbf", false, 0}, {"\xe0\x9f\xbf", false, 0}, {"\xf0\x8f\xbf\xbf", false, 0},
		{"\xed\xa0\x80", false, 0}, {"\xed\xbf\xbf", false, 0}, {"\xf4\x90\x80\x80", false, 0}, {"\xf5\x80\x80\x80", false, 0},
		{"a\xe2\x82", false, 1}, {"a\xe2\x82b", false, 1}, {"\xef\xbf\xbd\xf0\x9f\x98", false, 3}, {"\xff\xc3\xa9", false, 0},
	} {
		if ok, at := Utf8(c.s); ok != c.ok || at != c.at {
			t.Errorf("Utf8(%q) = %v, %d; want %v, %d", c.s, ok, at, c.ok, c.at)
		}
	}
}

func TestUtf8OfAllShortTexts(t *testing.T) {
	all := sequences()
	for a := range 256 {
		checkUtf8(t, []byte{byte(a)}, all)
		for b := range 256 {
			checkUtf8(t, []byte{byte(a), byte(b)}, all)
		}
	}
}

func TestUtf8AtTheEdges(t *testing.T) {
	edges := []byte{0, 'a', 0x7f, 0x80, 0x8f, 0x90, 0x9f, 0xa0, 0xbf, 0xc0, 0xc1, 0xc2, 0xdf, 0xe0, 0xe1,
		0xec, 0xed, 0xee, 0xef, 0xf0, 0xf1, 0xf3, 0xf4, 0xf5, 0xf7, 0xf8, 0xff}
	all := sequences()
	for _, a := range edges {
		for _, b := range edges {
			for _, c := range edges {
				checkUtf8(t, []byte{a, b, c}, all)
				for _, d := range edges {
					checkUtf8(t, []byte{a, b, c, d}, all)
					checkUtf8(t, []byte{'x', a, b, c, d, 'y'}, all)
				}
			}
		}
	}
}
