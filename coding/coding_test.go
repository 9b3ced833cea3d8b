package coding

import (
	"encoding/hex"
	"net/url"
	"strings"
	"testing"

	"gatewicket/api"
)

// wordsOf lists all texts of these bytes with at most so many of them.
func wordsOf(signs string, most int) []string {
	all := []string{""}
	for i := 0; i < len(all); i++ {
		if len(all[i]) == most {
			break
		}
		for k := range len(signs) {
			all = append(all, all[i]+signs[k:k+1])
		}
	}
	return all
}

func oneByte(i int) string { return string([]byte{byte(i)}) }

func TestUrlEncode(t *testing.T) {
	for s, want := range map[string]string{
		"": "", "a b&\xff": "a+b%26%FF", "AZaz09": "AZaz09", "-._~": "-._~", "+": "%2B", "%41": "%2541", "  ": "++", "\x00\n": "%00%0A",
		"@[`{/:": "%40%5B%60%7B%2F%3A", "\xc3\xa9": "%C3%A9", "\t": "%09", "*": "%2A",
	} {
		if got := UrlEncode(s); got != want {
			t.Errorf("UrlEncode(%q) = %q; want %q", s, got, want)
		}
	}
}

func TestUrlEncodeOfEachByte(t *testing.T) {
	for i := range 256 {
		s := oneByte(i)
		if got, want := UrlEncode(s), url.QueryEscape(s); got != want {
			t.Errorf("UrlEncode(%q) = %q; want %q", s, got, want)
		}
		if got := UrlDecode(UrlEncode("x" + s + "41")); got != "x"+s+"41" {
			t.Errorf("byte %d comes back as %q", i, got)
		}
	}
}

func TestUrlDecode(t *testing.T) {
	for s, want := range map[string]string{
		"": "", "%41+": "A ", "%41%4+%zz%": "A%4 %zz%", "+": " ", "++": "  ", "a b": "a b", "%": "%", "%4": "%4", "%%": "%%", "%%41": "%A", "%%%41": "%%A",
		"%2541": "%41", "%25%34%31": "%41", "%2B": "+", "%2b+": "+ ", "%aF%Fa": "\xaf\xfa", "%00": "\x00", "%g0%0g": "%g0%0g", "%4%41": "%4A",
		"%+1%1+": "% 1%1 ", "%x41": "%x41", "%-1": "%-1", "%u0041": "%u0041", "\xff%ff": "\xff\xff", "%4\x31": "A", "%4\xb1": "%4\xb1",
	} {
		if got := UrlDecode(s); got != want {
			t.Errorf("UrlDecode(%q) = %q; want %q", s, got, want)
		}
	}
}

func TestUrlDecodeOfAllPairs(t *testing.T) {
	for a := range 256 {
		for b := range 256 {
			pair := oneByte(a) + oneByte(b)
			want := "%" + strings.ReplaceAll(pair, "+", " ")
			if coded, err := hex.DecodeString(pair); err == nil {
				want = string(coded)
			}
			if got := UrlDecode("%" + pair); got != want {
				t.Fatalf("UrlDecode(%q) = %q; want %q", "%"+pair, got, want)
			}
		}
	}
}

// plainUrlDecode reads s as P6 tells it, one piece after the other.
func plainUrlDecode(s string) string {
	text := ""
	for s != "" {
		coded, err := hex.DecodeString(s[1:min(3, len(s))])
		switch {
		case s[0] == '+':
			text, s = text+" ", s[1:]
		case s[0] == '%' && err == nil && len(coded) == 1:
			text, s = text+string(coded), s[3:]
		default:
			text, s = text+s[:1], s[1:]
		}
	}
	return text
}

func TestUrlDecodeOfAllShortTexts(t *testing.T) {
	for _, s := range wordsOf("%+2bBg", 6) {
		if got, want := UrlDecode(s), plainUrlDecode(s); got != want {
			t.Fatalf("UrlDecode(%q) = %q; want %q", s, got, want)
		}
	}
}

func TestHexEncode(t *testing.T) {
	for s, want := range map[string]string{"": "", "JK": "4a4b", "\x00\xff\x0a": "00ff0a", "a b": "612062"} {
		if got := HexEncode(s); got != want {
			t.Errorf("HexEncode(%q) = %q; want %q", s, got, want)
		}
	}
	for i := range 256 {
		s := oneByte(i)
		if got, want := HexEncode(s), hex.EncodeToString([]byte(s)); got != want {
			t.Errorf("HexEncode(%q) = %q; want %q", s, got, want)
		}
	}
}

func checkHexDecode(t *testing.T, s, want string, wantErr api.Errno) {
	t.Helper()
	if got, e := HexDecode(s); got != want || e != wantErr {
		t.Errorf("HexDecode(%q) = %q, %d; want %q, %d", s, got, e, want, wantErr)
	}
}

func TestHexDecode(t *testing.T) {
	for s, want := range map[string]string{"": "", "4a4B": "JK", "00": "\x00", "fF": "\xff", "Ff0A": "\xff\n", "0123456789abcdefABCDEF": "\x01\x23\x45\x67\x89\xab\xcd\xef\xab\xcd\xef"} {
		checkHexDecode(t, s, want, api.OK)
	}
	for _, s := range []string{
		"4", "414", "4142434", "g0", "0g", "0x41", "41 42", " 41", "41 ", "41\n", "4142\r\n", "-1", "+1", "41g", "41gg", "\x00\x00", "\xb1\xb2", "4\xb1",
		"41@A", "`a", "GG", "::", "//",
	} {
		checkHexDecode(t, s, "", api.ErrForm)
	}
}

func TestHexDecodeOfAllPairs(t *testing.T) {
	for a := range 256 {
		checkHexDecode(t, oneByte(a), "", api.ErrForm)
		for b := range 256 {
			pair := oneByte(a) + oneByte(b)
			want, wantErr := "", api.ErrForm
			if coded, err := hex.DecodeString(pair); err == nil {
				want, wantErr = string(coded), api.OK
			}
			checkHexDecode(t, pair, want, wantErr)
		}
	}
}
