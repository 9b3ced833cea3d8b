package octet

import (
	"math"
	"strings"
	"testing"

	"gatewicket/api"
)

type numberCase struct {
	s    string
	want int // -1: ErrForm
}

func checkNumbers(t *testing.T, name string, call func(string) (int, api.Errno), cases []numberCase) {
	t.Helper()
	for _, c := range cases {
		want, wantErr := c.want, api.OK
		if want < 0 {
			want, wantErr = 0, api.ErrForm
		}
		if n, e := call(c.s); n != want || e != wantErr {
			t.Errorf("%s(%q) = %d, %d; want %d, %d", name, c.s, n, e, want, wantErr)
		}
	}
}

func TestDec(t *testing.T) {
	checkNumbers(t, "Dec", Dec, []numberCase{
		{"0", 0}, {"7", 7}, {"10", 10}, {"123456789", 123456789},
		{"007", 7}, {"000000000", 0}, {"000000001", 1}, {"999999999", 999999999},
		{"", -1}, {"0000000000", -1}, {"1000000000", -1}, {"0000000001", -1}, {"99999999999999999999999", -1},
		{"-1", -1}, {"+1", -1}, {" 1", -1}, {"1 ", -1}, {"1\n", -1}, {"1_0", -1}, {"1.0", -1},
		{"a", -1}, {"1f", -1}, {"0x1", -1}, {"\x00", -1}, {"\xb2", -1}, {"\xd9\xa1", -1},
	})
}

func TestHex(t *testing.T) {
	checkNumbers(t, "Hex", Hex, []numberCase{
		{"0", 0}, {"a", 10}, {"F", 15}, {"10", 16}, {"fF", 255}, {"0aB", 171}, {"1234567", 0x1234567}, {"89abcde", 0x89abcde},
		{"0000000", 0}, {"0000001", 1}, {"fffffff", 0xfffffff}, {"FFFFFFF", 0xfffffff},
		{"", -1}, {"00000000", -1}, {"10000000", -1}, {"ffffffff", -1}, {"ffffffffffffffffffff", -1},
		{"g", -1}, {"G", -1}, {"0x1", -1}, {"-1", -1}, {"+1", -1}, {" 1", -1}, {"1 ", -1}, {"1\r\n", -1}, {"1_0", -1},
	})
}

func TestDigitsOfOneByte(t *testing.T) {
	for i := range 256 {
		s := string([]byte{byte(i)})
		dec, hex := strings.Index("0123456789", s), strings.Index("0123456789abcdef", strings.ToLower(s))
		checkNumbers(t, "Dec", Dec, []numberCase{{s, dec}})
		checkNumbers(t, "Hex", Hex, []numberCase{{s, hex}})
		checkNumbers(t, "Dec", Dec, []numberCase{{"1" + s, tens(10, dec)}})
		checkNumbers(t, "Hex", Hex, []numberCase{{"1" + s, tens(16, hex)}})
	}
}

func tens(base, digit int) int {
	if digit < 0 {
		return -1
	}
	return base + digit
}

func TestLower(t *testing.T) {
	for i := range 256 {
		want := []byte{byte(i)}
		if i >= 65 && i <= 90 {
			want[0] = byte(i + 32)
		}
		if got := Lower(string([]byte{byte(i)})); got != string(want) {
			t.Errorf("Lower of byte %d is %q", i, got)
		}
	}
	for s, want := range map[string]string{
		"": "", "aBC-09": "abc-09", "AZ@[": "az@[", "\xc3\x89\xc9X": "\xc3\x89\xc9x", "\x00A\xff": "\x00a\xff",
		"\xe2\x84\xaa": "\xe2\x84\xaa", // a sign that Unicode has as a capital k
	} {
		if got := Lower(s); got != want {
			t.Errorf("Lower(%q) = %q; want %q", s, got, want)
		}
	}
}

func TestToken(t *testing.T) {
	const letters = "abcdefghijklmnopqrstuvwxyzABCDEFGHIJKLMNOPQRSTUVWXYZ0123456789"
	const signs = "!#$%&'*+-.^_|~\x60"
	for i := range 256 {
		s := string([]byte{byte(i)})
		want := strings.Contains(letters+signs, s)
		for _, text := range []string{s, "a" + s, s + "a", "a" + s + "a"} {
			if Token(text) != want {
				t.Errorf("Token(%q) is not %v", text, want)
			}
		}
	}
	if Token("") {
		t.Error("the empty text is a token")
	}
	if !Token(letters + signs) {
		t.Error("all bytes of tokens are none")
	}
}

func TestFind(t *testing.T) {
	for _, c := range []struct {
		s, t       string
		from, want int
	}{
		{"ushe", "she", 0, 1}, {"ushe", "he", 0, 2}, {"ushe", "x", 0, -1}, {"ushe", "ushex", 0, -1},
		{"aaa", "aa", 0, 0}, {"aaa", "aa", 1, 1}, {"aaa", "aa", 2, -1}, {"aaa", "aaa", 0, 0},
		{"abab", "ab", 1, 2}, {"abab", "ab", 2, 2}, {"abab", "ab", 3, -1}, {"aab", "ab", 0, 1},
		{"abc", "a", -1, 0}, {"abc", "b", math.MinInt, 1}, {"abc", "x", -5, -1},
		{"abc", "c", 2, 2}, {"abc", "c", 3, -1}, {"abc", "c", 4, -1}, {"abc", "a", math.MaxInt, -1},
		{"abc", "", 0, 0}, {"abc", "", 2, 2}, {"abc", "", 3, 3}, {"abc", "", 4, -1}, {"abc", "", -1, 0}, {"abc", "", math.MaxInt, -1},
		{"", "", 0, 0}, {"", "", -1, 0}, {"", "", 1, -1}, {"", "a", 0, -1}, {"", "a", 1, -1},
		{"\xff\x00\xff\x00", "\x00", 2, 3}, {"\xc3\xa9", "\xa9", 0, 1},
	} {
		if got := Find(c.s, c.t, c.from); got != c.want {
			t.Errorf("Find(%q, %q, %d) = %d; want %d", c.s, c.t, c.from, got, c.want)
		}
	}
}

func TestFindAsItsWordsSay(t *testing.T) {
	texts := wordsOf("ab", 5)
	for _, s := range texts {
		for _, part := range wordsOf("ab", 3) {
			for from := -2; from <= len(s)+2; from++ {
				if got, want := Find(s, part, from), plainFind(s, part, from); got != want {
					t.Errorf("Find(%q, %q, %d) = %d; want %d", s, part, from, got, want)
				}
			}
		}
	}
}

func plainFind(s, t string, from int) int {
	for at := range len(s) + 1 {
		if at >= from && at+len(t) <= len(s) && s[at:at+len(t)] == t {
			return at
		}
	}
	return -1
}

// wordsOf lists all texts of these bytes with at most so many of them.
func wordsOf(signs string, most int) []string {
	all := []string{""}
	for i := 0; i < len(all); i++ {
		if len(all[i]) == most {
			break
		}
		for k := range len(signs) {
			all = append(all, all[i]+signs[k:k+1])
		}
	}
	return all
}

func TestTrim(t *testing.T) {
	for s, want := range map[string]string{
		"": "", " ": "", "\t": "", " \t \t": "", "a": "a", " a": "a", "a ": "a", "\ta\t": "a", " \ta \t b\t ": "a \t b",
		"\na\r": "\na\r", " \n ": "\n", "\x0ba\x0c": "\x0ba\x0c", "\x00 a": "\x00 a", " \xff ": "\xff", "\xa0a\xa0": "\xa0a\xa0", "\xc2\xa0": "\xc2\xa0",
	} {
		if got := Trim(s); got != want {
			t.Errorf("Trim(%q) = %q; want %q", s, got, want)
		}
	}
	for i := range 256 {
		c := string([]byte{byte(i)})
		want := c + "x" + c
		if i == 9 || i == 32 {
			want = "x"
		}
		if got := Trim(c + "x" + c); got != want {
			t.Errorf("Trim with byte %d at the ends is %q", i, got)
		}
	}
}
