package frame

import (
	"fmt"
	"math"
	"slices"
	"strconv"
	"strings"
	"testing"

	"gatewicket/api"
)

// plainChunks is P27 gone through byte by byte: what may stand at each place
// hangs on what was read.
func plainChunks(s string, most int) (string, int, api.Errno) {
	body, digits, left, waits := "", "", 0, "size"
	for i := range len(s) {
		c := s[i : i+1]
		switch {
		case waits == "size" && strings.Contains("0123456789abcdefABCDEF", c) && len(digits) < 7:
			digits += c
		case waits == "size" && c == "\r" && digits != "":
			waits = "size's 10"
		case waits == "size's 10" && c == "\n":
			size, _ := strconv.ParseInt(digits, 16, 64)
			if len(body)+int(size) > max(most, 0) {
				return "", 0, api.ErrBody
			}
			left, waits = int(size), "bytes"
			if left == 0 {
				waits = "last 13"
			}
		case waits == "bytes":
			body += c
			left--
			if left == 0 {
				waits = "13"
			}
		case waits == "13" && c == "\r":
			waits = "10"
		case waits == "10" && c == "\n":
			digits, waits = "", "size"
		case waits == "last 13" && c == "\r":
			waits = "last 10"
		case waits == "last 10" && c == "\n":
			return body, i + 1, api.OK
		default:
			return "", 0, api.ErrForm
		}
	}
	return "", 0, api.ErrMore
}

func checkChunks(t *testing.T, s string, most int, want string, wantTook int, wantErr api.Errno) {
	t.Helper()
	b, n, e := Chunks(s, most)
	if b != want || n != wantTook || e != wantErr {
		t.Errorf("Chunks(%.100q, %d) = %.100q, %d, %d; want %.100q, %d, %d", s, most, b, n, e, want, wantTook, wantErr)
	}
}

func checkPlain(t *testing.T, s string, most int) api.Errno {
	t.Helper()
	want, took, e := plainChunks(s, most)
	checkChunks(t, s, most, want, took, e)
	return e
}

func TestChunks(t *testing.T) {
	for s, want := range map[string]string{
		"0\r\n\r\n":                                              "",
		"00\r\n\r\n":                                             "",
		"0000000\r\n\r\n":                                        "",
		"2\r\nab\r\n0\r\n\r\n":                                   "ab",
		"02\r\nab\r\n00\r\n\r\n":                                 "ab",
		"0000002\r\nab\r\n0000000\r\n\r\n":                       "ab",
		"1\r\na\r\n1\r\nb\r\n2\r\ncd\r\n0\r\n\r\n":               "abcd",
		"a\r\n0123456789\r\n0\r\n\r\n":                           "0123456789",
		"A\r\n0123456789\r\n0\r\n\r\n":                           "0123456789",
		"1a\r\n" + times(26, "x") + "\r\n0\r\n\r\n":              times(26, "x"),
		"00fF\r\n" + times(255, "x") + "\r\n1\r\ny\r\n0\r\n\r\n": times(255, "x") + "y",
		"10\r\n" + times(16, "x") + "\r\n0\r\n\r\n":              times(16, "x"),
		"1000\r\n" + times(4096, "x") + "\r\n0\r\n\r\n":          times(4096, "x"),
		// Bytes are bytes, whatever they look like.
		"2\r\n\r\n\r\n0\r\n\r\n":                  "\r\n",
		"1\r\n\r\r\n1\r\n\n\r\n0\r\n\r\n":         "\r\n",
		"5\r\n0\r\n\r\n\r\n0\r\n\r\n":             "0\r\n\r\n",
		"7\r\n2\r\nab\r\n\r\n0\r\n\r\n":           "2\r\nab\r\n",
		"4\r\n\x00\xff\xc3\xa9\r\n0\r\n\r\n":      "\x00\xff\xc3\xa9",
		"1\r\n0\r\n1\r\n0\r\n1\r\n \r\n0\r\n\r\n": "00 ",
	} {
		for _, behind := range []string{"", "x", "\r\n", "0\r\n\r\n", "1\r\na\r\n0\r\n\r\n", "GET / HTTP/1.1\r\n\r\n", "\x00"} {
			for _, most := range []int{len(want), len(want) + 1, 4096, math.MaxInt} {
				checkChunks(t, s+behind, most, want, len(s), api.OK)
			}
		}
	}
}

func TestChunksRefuses(t *testing.T) {
	for _, s := range []string{
		// The size.
		"g", "G", "g\r\n", "/", ":", "@", "`", "x1", " 1\r\n", "\t1\r\n", "+1\r\n", "-1\r\n", "-0\r\n", "0x1\r\n", "0X1", "1 \r\n", "1\t\r\n", "1;a=b\r\n", "1;", "1 ;", "1_", "1.", "\r", "\n", "\r\n", "\r\n0\r\n\r\n", "\x00", "\xff", "\xef\xbc\x91", "\"1\"", "1g", "ag\r\n",
		"00000000", "00000000\r\n\r\n", "00000001\r\na\r\n0\r\n\r\n", "12345678", "ffffffff", "100000000\r\n", times(100, "0"), times(100, "f"), "0000000g", "0000000 ",
		// Behind it.
		"1\n", "1\na\n0\n\n", "1\r\r", "1\ra", "1\r\r\n", "1\n\r", "0\n", "0\n\n", "0\r\r", "0\rx", "1\r0",
		// The bytes, and behind them.
		"1\r\nab", "1\r\nabc", "1\r\na\n", "1\r\na\r\r", "1\r\na\ra", "1\r\na0\r\n\r\n", "1\r\n\r\n\r", "1\r\n\r\n\n", "2\r\na\r\n0\r\n\r\n", "2\r\nabc\r\n0\r\n\r\n", "2\r\nab0\r\n\r\n", "1\r\na\r\n\r\n", "1\r\na\r\n\r", "1\r\na\r\n g", "1\r\na\r\ng",
		"1\r\na\r\n00000000", "1\r\na\r\n1\r\nbc", "1\r\na\r\n1 ", "1\r\na\r\n0\n",
		// The last one.
		"0\r\nx", "0\r\n0", "0\r\n\n", "0\r\n\r\r", "0\r\n\rx", "0\r\na: b\r\n\r\n", "0\r\n0\r\n\r\n", "0\r\n 1", "000\r\nx", "1\r\na\r\n0\r\nx", "1\r\na\r\n0\r\na: b\r\n\r\n", "1\r\na\r\n0\r\n1\r\nb\r\n0\r\n\r\n",
	} {
		for _, behind := range []string{"", "x", "\r\n", "\r\n\r\n", "0\r\n\r\n"} {
			if e := checkPlain(t, s+behind, 4096); e != api.ErrForm {
				t.Errorf("%q: the tests want ErrForm and %d", s+behind, e)
			}
		}
	}
}

// At each place at which a good text is cut off more is asked for; whatever is
// behind it isn't looked at.
func TestChunksOfCutTexts(t *testing.T) {
	for _, s := range []string{"0\r\n\r\n", "0000000\r\n\r\n", "2\r\nab\r\n0\r\n\r\n", "1\r\n\r\r\n000000b\r\n0\r\n\r\n0\r\n\r\n\r\r\n00\r\n\r\n", "1e\r\n" + times(30, "\n") + "\r\nA\r\n" + times(10, "0") + "\r\n0\r\n\r\n"} {
		for n := range len(s) {
			checkChunks(t, s[:n], 4096, "", 0, api.ErrMore)
		}
		want, took, e := plainChunks(s, 4096)
		if took != len(s) || e != api.OK {
			t.Fatalf("%q is no good text", s)
		}
		for c := range 256 {
			checkChunks(t, s+bytesText(byte(c)), 4096, want, len(s), api.OK)
		}
	}
}

// Too many bytes are told as soon as the end of the size's line is there, and
// no sooner; what is wrong ahead of it is told instead, what is behind it isn't
// looked at.
func TestChunksOfTooManyBytes(t *testing.T) {
	for _, c := range []struct {
		s    string
		most int
		want api.Errno
	}{
		{"d", 12, api.ErrMore}, {"d\r", 12, api.ErrMore}, {"d\r\n", 12, api.ErrBody}, {"d\r\n", 13, api.ErrMore}, {"D\r\nx", 12, api.ErrBody}, {"d\rx", 12, api.ErrForm}, {"d\n", 12, api.ErrForm}, {"dg", 12, api.ErrForm}, {"d;\r\n", 12, api.ErrForm},
		{"d\r\n" + times(13, "x") + "y", 12, api.ErrBody}, {"d\r\n" + times(13, "x") + "\r\n0\r\n\r\n", 12, api.ErrBody}, {"c\r\n" + times(12, "x") + "\r\n0\r\n\r\n", 12, api.OK}, {"c\r\n" + times(12, "x") + "\r\n1\r\n", 12, api.ErrBody}, {"c\r\n" + times(12, "x") + "\r\n1\r", 12, api.ErrMore}, {"c\r\n" + times(12, "x") + "\r\n1\r ", 12, api.ErrForm}, {"c\r\n" + times(12, "x") + "y1\r\n", 12, api.ErrForm},
		{"1\r\na\r\n1\r\nb\r\n1\r\n", 2, api.ErrBody}, {"1\r\na\r\n1\r\nb\r\n1\r\n", 3, api.ErrMore}, {"1\r\na\r\n2\r\n", 2, api.ErrBody}, {"1\r\na\r\n2\r\n", 3, api.ErrMore}, {"1\r\nab2\r\n", 2, api.ErrForm}, {"1\r\na\r\n1\r\nb\r\n0\r\n\r\n", 2, api.OK}, {"1\r\na\r\n1\r\nb\r\n0\r\nx", 2, api.ErrForm},
		{"fffffff\r\n", 4096, api.ErrBody}, {"FFFFFFF\r\n", 0xffffffe, api.ErrBody}, {"fffffff\r\n", 0xfffffff, api.ErrMore}, {"fffffff\r\nx", math.MaxInt, api.ErrMore}, {"1\r\na\r\nfffffff\r\nx", math.MaxInt, api.ErrMore}, {"1\r\na\r\nfffffff\r\nx", 0xfffffff, api.ErrBody}, {"1\r\na\r\nfffffff\r\nx", 0x10000000, api.ErrMore}, {"00000000\r\n", 0, api.ErrForm}, {"10000000\r\n", 1, api.ErrForm},
		{"1\r\n", 0, api.ErrBody}, {"1\r\na\r\n0\r\n\r\n", 0, api.ErrBody}, {"0\r\n\r\n", 0, api.OK}, {"0\r\n", 0, api.ErrMore}, {"000\r\n\r\n", 0, api.OK},
		// Below 0 there may be none.
		{"1\r\n", -1, api.ErrBody}, {"0\r\n\r\n", -1, api.OK}, {"0\r\n", -1, api.ErrMore}, {"0\r\nx", -1, api.ErrForm}, {"", -1, api.ErrMore}, {"g", -1, api.ErrForm}, {"1\r\na\r\n0\r\n\r\n", math.MinInt, api.ErrBody}, {"0\r\n\r\n", math.MinInt, api.OK}, {"fffffff\r\n", math.MinInt, api.ErrBody},
	} {
		if e := checkPlain(t, c.s, c.most); e != c.want {
			t.Errorf("%q, %d: the tests want %d and %d", c.s, c.most, c.want, e)
		}
	}
}

// Each byte is put at each place of a good text, and in each one's stead, and
// each one is left out.
func TestChunksOfChangedTexts(t *testing.T) {
	told := map[api.Errno]int{}
	for _, good := range []string{"0\r\n\r\n", "0000000\r\n\r\n", "2\r\nab\r\n0\r\n\r\n", "00000b\r\nabc\r\n0\r\n\r\ne\r\n1\r\nf\r\n00\r\n\r\n"} {
		for _, s := range changed(good) {
			for _, most := range []int{0, 2, 12, 300} {
				told[checkPlain(t, s, most)]++
			}
		}
	}
	for _, e := range []api.Errno{api.OK, api.ErrForm, api.ErrBody, api.ErrMore} {
		if told[e] < 100 {
			t.Errorf("only these were told: %v", told)
		}
	}
}

// All texts of a few pieces that matter, and each of them between chunks.
func TestChunksOfAllShortTexts(t *testing.T) {
	pieces := []string{"0", "1", "2", "a", "\r", "\n", "\r\n", "x"}
	texts := []string{""}
	for i := 0; i < len(texts); i++ {
		for _, s := range []string{texts[i], "1\r\n" + texts[i] + "\r\n0\r\n\r\n", "2\r\nyz\r\n" + texts[i] + "0\r\n\r\n"} {
			for most := range 4 {
				checkPlain(t, s, most)
			}
		}
		if len(texts) < 8*8*8*8*8 {
			for _, piece := range pieces {
				texts = append(texts, texts[i]+piece)
			}
		}
	}
}

func TestChunksOfMixedTexts(t *testing.T) {
	pick := picker(27)
	good := []string{"1\r\na\r\n", "2\r\n\r\n\r\n", "0c\r\n0123456789\r\n\r\n", "0000010\r\n" + times(16, "x") + "\r\n"}
	odd := []string{"0\r\n\r\n", "3\r\nab\r\n", "1\r\nab\r\n", "\r\n", "g", "00000001\r\na\r\n", "1;\r\na\r\n", "fff\r\n", "0\r\na: b\r\n", "1\n", "1\r\na"}
	told := map[api.Errno]int{}
	for range 20000 {
		s := ""
		for range pick(12) {
			if pick(12) == 0 {
				s += odd[pick(len(odd))]
			} else {
				s += good[pick(len(good))]
			}
		}
		told[checkPlain(t, s+[]string{"", "0\r\n\r\n", "00\r\n\r\nx"}[pick(3)], pick(120))]++
	}
	for _, e := range []api.Errno{api.OK, api.ErrForm, api.ErrBody, api.ErrMore} {
		if told[e] < 1000 {
			t.Errorf("only these were told: %v", told)
		}
	}
}

// plainChunked is P28 as it is told.
func plainChunked(s string, sizes []int) string {
	text := ""
	for _, size := range append(slices.Clone(sizes), len(s)) {
		if size > len(s) {
			size = len(s)
		}
		if size > 0 {
			text += fmt.Sprintf("%x\r\n%s\r\n", size, s[:size])
			s = s[size:]
		}
	}
	return text + "0\r\n\r\n"
}

func checkChunked(t *testing.T, s string, sizes []int, want string) {
	t.Helper()
	text := Chunked(s, sizes)
	if text != want {
		t.Errorf("Chunked(%.100q, %d) = %.100q; want %.100q", s, sizes, text, want)
	}
	for _, behind := range []string{"", "0\r\n\r\n", "x"} {
		checkChunks(t, text+behind, len(s), s, len(text), api.OK)
	}
	if s != "" {
		checkChunks(t, text, len(s)-1, "", 0, api.ErrBody)
	}
}

func TestChunked(t *testing.T) {
	for _, c := range []struct {
		s     string
		sizes []int
		want  string
	}{
		{"", nil, "0\r\n\r\n"}, {"", []int{}, "0\r\n\r\n"}, {"", []int{0}, "0\r\n\r\n"}, {"", []int{1, 2, -1}, "0\r\n\r\n"},
		{"ab", nil, "2\r\nab\r\n0\r\n\r\n"}, {"ab", []int{2}, "2\r\nab\r\n0\r\n\r\n"}, {"ab", []int{1}, "1\r\na\r\n1\r\nb\r\n0\r\n\r\n"}, {"ab", []int{3}, "2\r\nab\r\n0\r\n\r\n"}, {"ab", []int{math.MaxInt, math.MaxInt}, "2\r\nab\r\n0\r\n\r\n"},
		{"ab", []int{1, 1}, "1\r\na\r\n1\r\nb\r\n0\r\n\r\n"}, {"ab", []int{1, 1, 1, 5}, "1\r\na\r\n1\r\nb\r\n0\r\n\r\n"}, {"ab", []int{1, 5}, "1\r\na\r\n1\r\nb\r\n0\r\n\r\n"}, {"abc", []int{2, 2, 2}, "2\r\nab\r\n1\r\nc\r\n0\r\n\r\n"},
		{"ab", []int{0}, "2\r\nab\r\n0\r\n\r\n"}, {"ab", []int{-1}, "2\r\nab\r\n0\r\n\r\n"}, {"ab", []int{math.MinInt, 1, 0, math.MinInt}, "1\r\na\r\n1\r\nb\r\n0\r\n\r\n"}, {"ab", []int{0, 0, -5, 2, 0}, "2\r\nab\r\n0\r\n\r\n"}, {"abc", []int{1, -1, 1}, "1\r\na\r\n1\r\nb\r\n1\r\nc\r\n0\r\n\r\n"},
		{"\r\n", nil, "2\r\n\r\n\r\n0\r\n\r\n"}, {"0\r\n\r\n", []int{1}, "1\r\n0\r\n4\r\n\r\n\r\n\r\n0\r\n\r\n"}, {"\x00\xff", []int{1}, "1\r\n\x00\r\n1\r\n\xff\r\n0\r\n\r\n"},
		{times(9, "x"), nil, "9\r\n" + times(9, "x") + "\r\n0\r\n\r\n"}, {times(10, "x"), nil, "a\r\n" + times(10, "x") + "\r\n0\r\n\r\n"}, {times(15, "x"), nil, "f\r\n" + times(15, "x") + "\r\n0\r\n\r\n"}, {times(16, "x"), nil, "10\r\n" + times(16, "x") + "\r\n0\r\n\r\n"}, {times(171, "x"), []int{160}, "a0\r\n" + times(160, "x") + "\r\nb\r\n" + times(11, "x") + "\r\n0\r\n\r\n"},
		{times(4096, "x"), []int{255}, "ff\r\n" + times(255, "x") + "\r\nf01\r\n" + times(3841, "x") + "\r\n0\r\n\r\n"}, {times(0xabcde, "x"), nil, "abcde\r\n" + times(0xabcde, "x") + "\r\n0\r\n\r\n"},
	} {
		checkChunked(t, c.s, c.sizes, c.want)
	}
}

func TestChunkedOfMixedTexts(t *testing.T) {
	pick := picker(28)
	for range 3000 {
		b := make([]byte, pick(40)*pick(40))
		for i := range b {
			b[i] = []byte("\r\n0aF\x00\xff")[pick(7)]
		}
		sizes := make([]int, pick(12))
		for i := range sizes {
			sizes[i] = []int{pick(300), pick(5), 1, 0, -1, 16, math.MaxInt}[pick(7)]
		}
		checkChunked(t, string(b), sizes, plainChunked(string(b), sizes))
	}
}

// Many chunks and large ones are read in one go.
func TestChunksOfMany(t *testing.T) {
	s := times(300000, "y")
	text := Chunked(s, slices.Repeat([]int{1}, len(s)+1000))
	if want := times(len(s), "1\r\ny\r\n") + "0\r\n\r\n"; text != want {
		t.Errorf("Chunked of %d chunks has %d bytes", len(s), len(text))
	}
	checkChunks(t, text+"x", len(s), s, len(text), api.OK)
	checkChunks(t, text, len(s)-1, "", 0, api.ErrBody)
	checkChunks(t, text[:len(text)-1], len(s), "", 0, api.ErrMore)
}
