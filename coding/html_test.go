package coding

import (
	"fmt"
	"regexp"
	"strconv"
	"strings"
	"testing"
)

func checkHtml(t *testing.T, s, want string) {
	t.Helper()
	if got := HtmlDecode(s); got != want {
		t.Errorf("HtmlDecode(%q) = %q; want %q", s, got, want)
	}
}

func TestHtmlDecode(t *testing.T) {
	for s, want := range map[string]string{
		"": "", "plain; text": "plain; text", "&lt;&gt;&amp;&quot;": "<>&\"", "a&lt;b": "a<b", "&lt;script&gt;": "<script>",
		"&#65;": "A", "&#0;": "\x00", "&#00;": "\x00", "&#9;": "\t", "&#09;": "\t", "&#009;": "\t", "&#255;": "\xff",
		"&#x0;": "\x00", "&#x00;": "\x00", "&#xa;": "\n", "&#xA;": "\n", "&#x0A;": "\n", "&#xfF;": "\xff", "&#x42;": "B",
		"&lt;&#65;&#x42;&amp;lt;&#256;&quot": "<AB&lt;&#256;&quot",
	} {
		checkHtml(t, s, want)
	}
}

func TestHtmlDecodeLeavesAllElse(t *testing.T) {
	for _, s := range []string{
		"&", "&;", "&&", "&;;", ";", "&l", "&lt", "&l;", "&lt ;", "& lt;", "&LT;", "&Lt;", "&AMP;", "&QUOT;", "&ltx;", "&ltt;", "&apos;", "&nbsp;", "&quott;", "&quot", "&quo;", "&am;",
		"&#;", "&#", "&#6", "&#65", "&#256;", "&#300;", "&#999;", "&#0065;", "&#0000;", "&#1000;", "&#-1;", "&#+1;", "&# 1;", "&#1 ;", "&#a;", "&#6a;", "& #65;",
		"&#x;", "&#x", "&#x4", "&#x41", "&#x041;", "&#x100;", "&#x000;", "&#xg;", "&#x4g;", "&#X41;", "&#x 1;", "&#x-1;", "&x41;", "&#x4 ;", "&#xx1;", "&##65;", "&65;",
		"%26lt;", "\xa6lt;",
	} {
		checkHtml(t, s, s)
	}
}

func TestHtmlDecodeGoesOnFromTheLeft(t *testing.T) {
	for s, want := range map[string]string{
		"&&lt;": "&<", "&#&lt;": "&#<", "&#x&#65;": "&#xA", "&lt&lt;": "&lt<", "&am&amp;p;": "&am&p;", "&amp;amp;": "&amp;", "&amp;#65;": "&#65;", "&#38;lt;": "&lt;",
		"&#x26;lt;": "&lt;", "&amp;amp;amp;": "&amp;amp;", "&#&#51;8;": "&#38;", "&lt;;": "<;", "&#256;&#65;": "&#256;A", "&#2&#53;6;": "&#256;",
	} {
		checkHtml(t, s, want)
	}
}

func TestHtmlDecodeOfEachNumber(t *testing.T) {
	for n := range 1200 {
		for _, digits := range []string{fmt.Sprintf("%d", n), fmt.Sprintf("%02d", n), fmt.Sprintf("%03d", n), fmt.Sprintf("%04d", n)} {
			s := "&#" + digits + ";"
			want := s
			if n < 256 && len(digits) <= 3 {
				want = oneByte(n)
			}
			checkHtml(t, s, want)
		}
		for _, digits := range []string{fmt.Sprintf("%x", n), fmt.Sprintf("%02X", n), fmt.Sprintf("%03x", n)} {
			s := "&#x" + digits + ";"
			want := s
			if len(digits) <= 2 {
				want = oneByte(n)
			}
			checkHtml(t, s, want)
		}
	}
}

func TestHtmlDecodeOfEachByteAtEachPlace(t *testing.T) {
	for i := range 256 {
		for _, s := range []string{"&lt;", "&gt;", "&amp;", "&quot;", "&#65;", "&#165;", "&#x41;"} {
			for at := range len(s) {
				text := s[:at] + oneByte(i) + s[at+1:]
				checkHtml(t, text, plainHtmlDecode(text))
			}
		}
	}
}

func TestHtmlDecodeOfAllShortTexts(t *testing.T) {
	for _, s := range wordsOf("&#x2;", 7) {
		checkHtml(t, s, plainHtmlDecode(s))
	}
	for _, s := range wordsOf("&amp;", 6) {
		checkHtml(t, s, plainHtmlDecode(s))
	}
}

// plainHtmlDecode finds what P8 tells by an expression. Its bytes are laid out
// as runes, for an expression would take several bytes for one sign.
func plainHtmlDecode(s string) string {
	signs := regexp.MustCompile(`&(lt|gt|amp|quot|#[0-9]{1,3}|#x[0-9a-fA-F]{1,2});`)
	var runes []rune
	for i := range len(s) {
		runes = append(runes, rune(s[i]))
	}
	var text []byte
	for _, r := range signs.ReplaceAllStringFunc(string(runes), plainSign) {
		text = append(text, byte(r))
	}
	return string(text)
}

func plainSign(sign string) string {
	names := map[string]string{"&lt;": "<", "&gt;": ">", "&amp;": "&", "&quot;": "\""}
	if named, ok := names[sign]; ok {
		return named
	}
	digits, base := strings.Trim(sign, "&#;"), 10
	if digits[0] == 'x' {
		digits, base = digits[1:], 16
	}
	if n, _ := strconv.ParseInt(digits, base, 32); n < 256 {
		return string(rune(n))
	}
	return sign
}
