package pipe

import (
	"math"
	"slices"
	"strconv"
	"strings"
	"testing"

	"gatewicket/api"
	"gatewicket/clean"
	"gatewicket/coding"
	"gatewicket/octet"
)

func repeated(kind, times int) []int { return slices.Repeat([]int{kind}, times) }

// pipesOf lists all pipes of the eleven Kinds with at most so many of them.
func pipesOf(most int) [][]int {
	all := [][]int{nil}
	for i := 0; i < len(all) && len(all[i]) < most; i++ {
		for kind := 1; kind <= 11; kind++ {
			all = append(all, append(slices.Clone(all[i]), kind))
		}
	}
	return all
}

type wrongPipe struct {
	l    []int
	want api.Errno
}

func wrongPipes() []wrongPipe {
	wrong := []wrongPipe{
		{repeated(1, 9), api.ErrLarge}, {repeated(11, 9), api.ErrLarge}, {repeated(1, 10), api.ErrLarge}, {repeated(5, 100000), api.ErrLarge},
		{repeated(0, 9), api.ErrLarge}, {repeated(12, 9), api.ErrLarge}, {append([]int{-1}, repeated(1, 8)...), api.ErrLarge}, {append(repeated(1, 8), 12), api.ErrLarge},
		{repeated(0, 8), api.ErrArg}, {repeated(12, 8), api.ErrArg},
	}
	for _, kind := range []int{0, -1, 12, 13, 256 + 1, 1<<32 + 1, math.MinInt, math.MaxInt} {
		wrong = append(wrong, wrongPipe{[]int{kind}, api.ErrArg})
		for at := range 8 {
			l := []int{1, 2, 3, 4, 9, 10, 11, 5}
			l[at] = kind
			wrong = append(wrong, wrongPipe{l, api.ErrArg})
		}
	}
	return wrong
}

func TestCheck(t *testing.T) {
	for _, l := range pipesOf(3) {
		if e := Check(l); e != api.OK {
			t.Errorf("Check(%v) = %d", l, e)
		}
	}
	for _, l := range [][]int{nil, {}, {1, 2, 3, 4, 5, 6, 7, 8}, {4, 5, 6, 7, 8, 9, 10, 11}, repeated(1, 8), repeated(11, 8), repeated(6, 7)} {
		if e := Check(l); e != api.OK {
			t.Errorf("Check(%v) = %d", l, e)
		}
	}
}

func TestCheckRefuses(t *testing.T) {
	for _, c := range wrongPipes() {
		if e := Check(c.l); e != c.want {
			t.Errorf("Check(%.12v) = %d; want %d", c.l, e, c.want)
		}
	}
}

func checkRun(t *testing.T, l []int, s, want string) {
	t.Helper()
	if got, e := Run(l, s); got != want || e != api.OK {
		t.Errorf("Run(%v, %.60q) = %.60q, %d; want %.60q", l, s, got, e, want)
	}
}

func TestRunOfOne(t *testing.T) {
	for _, c := range []struct {
		kind    int
		s, want string
	}{
		{api.TLower, "aBC-Z\xc9", "abc-z\xc9"}, {api.TUrl, "%41+%2", "A %2"}, {api.THex, "4a4B", "JK"}, {api.TBase64, "Zm9v", "foo"}, {api.TBase64, "Zg==", "f"},
		{api.THtml, "&lt;&#65;&x;", "<A&x;"}, {api.TPath, "/a/./b/../c", "/a/c"}, {api.TPath, "a/..", ""}, {api.TSqueeze, "\t a\n\n b ", " a b "}, {api.TNoNull, "a\x00b\x00", "ab"},
		{api.TTrim, " \ta b\t \n", "a b\t \n"}, {api.TTrim, " \t", ""}, {api.TCmd, "C^AT  ,/etc;(x", "cat/etc(x"},
		{api.TLength, "", "0"}, {api.TLength, "a", "1"}, {api.TLength, "123456789", "9"}, {api.TLength, "1234567890", "10"}, {api.TLength, "\xc3\xa9", "2"}, {api.TLength, "\x00\n\xff", "3"},
		{api.TLength, strings.Repeat("x", 8192), "8192"}, {api.TLength, strings.Repeat("x", 1000), "1000"},
	} {
		checkRun(t, []int{c.kind}, c.s, c.want)
	}
}

func TestRunKeepsWhatCannotBeDecoded(t *testing.T) {
	for _, s := range []string{"zz", "4", "4g", "414", "41 42", "0x41", "\x00", "\xff\xff"} {
		checkRun(t, []int{api.THex}, s, s)
	}
	for _, s := range []string{"Zg", "Zg=", "Zh==", "Zg==Zg==", "====", "Zm9v\n", "Z-9v", "\x00\x00\x00\x00", "\xff\xff\xff\xff"} {
		checkRun(t, []int{api.TBase64}, s, s)
	}
	checkRun(t, []int{api.THex, api.TBase64}, "zz", "zz")
	checkRun(t, []int{api.THex, api.TLower}, "4G", "4g")
	checkRun(t, []int{api.TBase64, api.THex}, "4a4B4", "4a4B4")
	checkRun(t, []int{api.TBase64, api.THex}, "4a", "J")
	checkRun(t, []int{api.THex, api.TBase64, api.TLower}, "Zm9V", "fou")
}

func TestRunOneBehindTheOther(t *testing.T) {
	for _, c := range []struct {
		l       []int
		s, want string
	}{
		{nil, "", ""}, {nil, "aB %41", "aB %41"}, {[]int{}, "\x00\xff", "\x00\xff"},
		{[]int{api.TUrl, api.TLower}, "%41", "a"}, {[]int{api.TLower, api.TUrl}, "%41", "A"},
		{[]int{api.TUrl}, "%2541", "%41"}, {[]int{api.TUrl, api.TUrl}, "%2541", "A"}, {[]int{api.TUrl, api.TUrl, api.TUrl}, "%252541", "A"},
		{[]int{api.TUrl, api.TTrim}, "+a+", "a"}, {[]int{api.TTrim, api.TUrl}, "+a+", " a "},
		{[]int{api.THtml, api.TUrl, api.TPath}, "/a&#47;%2e%2E/b", "/b"}, {[]int{api.TUrl, api.TNoNull, api.TSqueeze}, "a+%00+b", "a b"}, {[]int{api.TUrl, api.TSqueeze, api.TNoNull}, "a+%00+b", "a  b"},
		{[]int{api.TLength, api.TLength}, "1234567890", "2"}, {repeated(api.TLength, 8), "", "1"}, {[]int{api.TLength, api.THex}, "1234567890", "\x10"},
		{[]int{api.TBase64, api.THex, api.TUrl, api.THtml, api.TCmd, api.TTrim, api.TLength, api.TLower}, "MjUzMjMy", "0"},
		{repeated(api.TUrl, 8), "%" + strings.Repeat("25", 9) + "41", "%2541"},
	} {
		checkRun(t, c.l, c.s, c.want)
	}
}

// plainStep is one transformation as P11 tells it.
func plainStep(kind int, s string) string {
	hex, hexErr := coding.HexDecode(s)
	if hexErr != api.OK {
		hex = s
	}
	base, baseErr := coding.Base64Decode(s)
	if baseErr != api.OK {
		base = s
	}
	return map[int]string{
		1: octet.Lower(s), 2: coding.UrlDecode(s), 3: hex, 4: base, 5: coding.HtmlDecode(s), 6: clean.Path(s),
		7: clean.Squeeze(s), 8: clean.NoNull(s), 9: octet.Trim(s), 10: strconv.Itoa(len(s)), 11: clean.Cmd(s),
	}[kind]
}

func TestRunOfAllShortPipes(t *testing.T) {
	texts := []string{"", "aB", "%41+%2541", "4A4b", "5A673D3D", "NDE=", "&#x25;41", "/a/./B/../%2e", " \t x \n ", "\x00 \x00", "C^AT ,/", "3%30\xff"}
	for _, l := range pipesOf(3) {
		for _, s := range texts {
			want := s
			for _, kind := range l {
				want = plainStep(kind, want)
			}
			checkRun(t, l, s, want)
		}
	}
}

func checkRunErr(t *testing.T, l []int, s string, want api.Errno) {
	t.Helper()
	if got, e := Run(l, s); got != "" || e != want {
		t.Errorf("Run(%.12v, %d bytes) = %.60q, %d; want %d", l, len(s), got, e, want)
	}
}

func TestRunRefuses(t *testing.T) {
	for _, c := range wrongPipes() {
		for _, size := range []int{0, 1, 8192, 8193} {
			checkRunErr(t, c.l, strings.Repeat("a", size), c.want)
		}
	}
}

func TestRunOfLargeTexts(t *testing.T) {
	most := strings.Repeat("A", 8192)
	for _, l := range [][]int{nil, {}, {api.TLower}, {api.TLength}, repeated(api.TTrim, 8)} {
		checkRunErr(t, l, most+"A", api.ErrLarge)
		checkRunErr(t, l, strings.Repeat(" ", 8193), api.ErrLarge)
		checkRunErr(t, l, strings.Repeat("\x00", 100000), api.ErrLarge)
	}
	checkRun(t, nil, most, most)
	checkRun(t, []int{api.TLower}, most, strings.ToLower(most))
	checkRun(t, []int{api.TSqueeze}, strings.Repeat(" ", 8192), " ")
	checkRun(t, []int{api.TPath}, strings.Repeat("../", 2730)+"xx", strings.Repeat("../", 2730)+"xx")
	// A path may become longer: the bound is that of what is handed in alone.
	checkRun(t, []int{api.TPath}, strings.Repeat("../", 2730)+"..", strings.Repeat("../", 2731))
	checkRun(t, []int{api.TPath, api.TPath, api.TLength}, strings.Repeat("../", 2730)+"..", "8193")
}
