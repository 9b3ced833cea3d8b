package coding

import (
	"encoding/base64"
	"strings"
	"testing"

	"gatewicket/api"
)

func checkBase64Decode(t *testing.T, s, want string, wantErr api.Errno) {
	t.Helper()
	if got, e := Base64Decode(s); got != want || e != wantErr {
		t.Errorf("Base64Decode(%q) = %q, %d; want %q, %d", s, got, e, want, wantErr)
	}
}

func TestBase64(t *testing.T) {
	for s, want := range map[string]string{
		"": "", "f": "Zg==", "fo": "Zm8=", "foo": "Zm9v", "foob": "Zm9vYg==", "fooba": "Zm9vYmE=", "foobar": "Zm9vYmFy",
		"\x00": "AA==", "\x00\x00": "AAA=", "\x00\x00\x00": "AAAA", "\xff": "/w==", "\xff\xff": "//8=", "\xff\xff\xff": "////", "\xfb\xef\xbe": "++++",
	} {
		if got := Base64Encode(s); got != want {
			t.Errorf("Base64Encode(%q) = %q; want %q", s, got, want)
		}
		checkBase64Decode(t, want, s, api.OK)
	}
}

func TestBase64OfAllShortTexts(t *testing.T) {
	for a := range 256 {
		for b := range 256 {
			for _, s := range []string{oneByte(a), oneByte(a) + oneByte(b), oneByte(b) + "x" + oneByte(a), "xy\xff" + oneByte(a) + oneByte(b)} {
				want := base64.StdEncoding.EncodeToString([]byte(s))
				if got := Base64Encode(s); got != want {
					t.Fatalf("Base64Encode(%q) = %q; want %q", s, got, want)
				}
				checkBase64Decode(t, want, s, api.OK)
			}
		}
	}
}

func TestBase64DecodeRefuses(t *testing.T) {
	for _, s := range []string{
		"Z", "Zg", "Zg=", "Zm8", "Zm9v=", "Zm9vZ", "Zm9v==", "=", "==", "===", "====", "Z===", "Zm9v====", "Zg==Zm9v", "Zg==Zg==", "Zm8=Zm8=", "Z=g=", "Zg=v", "=Zm9", "==Zg",
		"Zh==", "Zg8==", "Zm9=", "Zv==", "Z/==", "Zm//Zm9=", "ZmB=",
		"Zm9v\n", "Zm9\n", "Zm\n9", "Z g=", " Zm9", "Zm9 ", "Zg==\n\n\n\n", "Zm\r\n9v", "\r\n\r\n",
		"Zm9-", "Zm9_", "Zm9,", "\x00\x00\x00\x00", "Zm9\xff", "Zm9v\xc3\xa9\xc3\xa9",
	} {
		checkBase64Decode(t, s, "", api.ErrForm)
	}
}

// plainBase64Decode takes just what is the writing of some bytes.
func plainBase64Decode(s string) (string, api.Errno) {
	text, err := base64.StdEncoding.DecodeString(s)
	if err != nil || base64.StdEncoding.EncodeToString(text) != s {
		return "", api.ErrForm
	}
	return string(text), api.OK
}

func TestBase64DecodeOfAllShortTexts(t *testing.T) {
	for _, s := range wordsOf("AZgw/= ", 5) {
		for _, text := range []string{s, "Zm9v" + s, s + "=", s + "=="} {
			want, wantErr := plainBase64Decode(text)
			checkBase64Decode(t, text, want, wantErr)
		}
	}
}

func TestBase64DecodeOfEachByteAtEachPlace(t *testing.T) {
	for i := range 256 {
		for _, s := range []string{"AAAA", "AAA=", "AA==", "AAAAAAAA", "AAAAAA=="} {
			for at := range len(s) {
				text := s[:at] + oneByte(i) + s[at+1:]
				want, wantErr := plainBase64Decode(text)
				checkBase64Decode(t, text, want, wantErr)
			}
		}
	}
}

func TestBase64OfLongTexts(t *testing.T) {
	for size := range 70 {
		s := strings.Repeat("\xa5\x5a\x00\xff\x81", 14)[:size]
		want := base64.StdEncoding.EncodeToString([]byte(s))
		if got := Base64Encode(s); got != want {
			t.Errorf("Base64Encode(%q) = %q; want %q", s, got, want)
		}
		checkBase64Decode(t, want, s, api.OK)
	}
}
