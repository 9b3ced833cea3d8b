package pipe

import (
	"slices"
	"strings"
	"testing"

	"gatewicket/api"
)

func plainWords() map[int]string {
	return map[int]string{
		api.TLower: "lower", api.TUrl: "url", api.THex: "hex", api.TBase64: "base", api.THtml: "html", api.TPath: "path",
		api.TSqueeze: "squeeze", api.TNoNull: "nonull", api.TTrim: "trim", api.TLength: "length", api.TCmd: "cmd",
	}
}

// checkText holds Print and Parse against the text of a pipe.
func checkText(t *testing.T, l []int, text string) {
	t.Helper()
	if got, e := Print(l); got != text || e != api.OK {
		t.Errorf("Print(%v) = %q, %d; want %q", l, got, e, text)
	}
	if got, e := Parse(text); !slices.Equal(got, l) || e != api.OK {
		t.Errorf("Parse(%q) = %v, %d; want %v", text, got, e, l)
	}
}

func TestPrintAndParse(t *testing.T) {
	checkText(t, nil, "-")
	checkText(t, []int{}, "-")
	checkText(t, []int{2, 1}, "url,lower")
	checkText(t, []int{1, 2, 3, 4, 5, 6, 7, 8}, "lower,url,hex,base,html,path,squeeze,nonull")
	checkText(t, []int{11, 10, 9, 8, 7, 6, 5, 4}, "cmd,length,trim,nonull,squeeze,path,html,base")
	checkText(t, repeated(api.TSqueeze, 8), "squeeze"+strings.Repeat(",squeeze", 7))
}

func TestPrintAndParseOfAllShortPipes(t *testing.T) {
	names := plainWords()
	for _, l := range pipesOf(3)[1:] {
		text := names[l[0]]
		for _, kind := range l[1:] {
			text += "," + names[kind]
		}
		checkText(t, l, text)
	}
}

func TestPrintRefuses(t *testing.T) {
	for _, c := range wrongPipes() {
		if got, e := Print(c.l); got != "" || e != c.want {
			t.Errorf("Print(%.12v) = %.60q, %d; want %d", c.l, got, e, c.want)
		}
	}
}

func checkParseErr(t *testing.T, s string, want api.Errno) {
	t.Helper()
	if got, e := Parse(s); len(got) != 0 || e != want {
		t.Errorf("Parse(%.60q) = %.12v, %d; want %d", s, got, e, want)
	}
}

func TestParseRefuses(t *testing.T) {
	for _, s := range []string{
		"", " ", ",", ",,", ",,,,,,,", "low", "lower,", ",lower", "lower,,url", " lower", "lower ", "lower, url", "lower ,url", "lower\n", "\tlower", "lower\x00", "\x00", "\xff",
		"Lower", "LOWER", "lowerurl", "lower;url", "lower url", "lower/url", "lower|url", "base64", "urldecode", "none", "1", "0", "2,1", "[2 1]", "lower,low", "low,lower", "lower,x,url",
		"--", "-,", ",-", "-,-", "-,lower", "lower,-", " -", "- ", "-\n", `\-`, "x,x,x,x,x,x,x,x", "-,-,-,-,-,-,-,-", "lower,lower,lower,lower,lower,lower,lower,lowe",
		strings.Repeat("x", 100000), "lower" + strings.Repeat(" ", 100000),
	} {
		checkParseErr(t, s, api.ErrSyntax)
	}
}

func TestParseCountsFirst(t *testing.T) {
	for _, s := range []string{
		"x,x,x,x,x,x,x,x,x", ",,,,,,,,", "-,-,-,-,-,-,-,-,-", "lower" + strings.Repeat(",lower", 8), "lower" + strings.Repeat(",lower", 7) + ",", "," + strings.Repeat("url,", 7) + "url",
		" , , , , , , , , ", "lower" + strings.Repeat(",lower", 9), strings.Repeat(",", 100000), strings.Repeat("cmd,", 100000), "low,er" + strings.Repeat(",url", 7),
	} {
		checkParseErr(t, s, api.ErrLarge)
	}
}

// One byte more, less, or another one makes a word none, but for a comma
// that would have to stand between two words.
func TestParseOfWordsWithOneByteChanged(t *testing.T) {
	for _, word := range plainWords() {
		for at := range len(word) {
			checkParseErr(t, word[:at], api.ErrSyntax)
			checkParseErr(t, word[at+1:], api.ErrSyntax)
			checkParseErr(t, word[:at]+word[at+1:], api.ErrSyntax)
			for i := range 256 {
				c := string([]byte{byte(i)})
				checkParseErr(t, word[:at]+c+word[at:], api.ErrSyntax)
				checkParseErr(t, word+c, api.ErrSyntax)
				if c != word[at:at+1] {
					checkParseErr(t, word[:at]+c+word[at+1:], api.ErrSyntax)
				}
			}
		}
	}
	for i := range 256 {
		if i != '-' {
			checkParseErr(t, string([]byte{byte(i)}), api.ErrSyntax)
		}
	}
}
