package head

import (
	"regexp"
	"slices"
	"strings"
	"testing"

	"gatewicket/api"
)

var (
	plainWhole = regexp.MustCompile(`\A([^ \r\n]*) ([^ \r\n]*) HTTP/1\.1\r\n((?:[^\r\n:]*:[^\r\n]*\r\n)*)\r\n\z`)
	plainField = regexp.MustCompile(`([^\r\n:]*):[ \t]*([^\r\n]*?)[ \t]*\r\n`)
)

// plainParse is P24's Parse, read by the library's expressions.
func plainParse(s string) (api.Head, api.Errno) {
	if len(s) > 4096 {
		return api.Head{}, api.ErrHead
	}
	m := plainWhole.FindStringSubmatch(s)
	if m == nil {
		return api.Head{}, api.ErrForm
	}
	h := head(m[1], m[2])
	for _, f := range plainField.FindAllStringSubmatch(m[3], -1) {
		h.Fields = append(h.Fields, field(f[1], f[2]))
	}
	if e := plainCheck(h); e != api.OK {
		return api.Head{}, e
	}
	return h, api.OK
}

func checkParse(t *testing.T, s string, want api.Head, wantErr api.Errno) {
	t.Helper()
	h, e := Parse(s)
	if !same(h, want) || e != wantErr {
		t.Errorf("Parse(%.100q) = %s, %d; want %s, %d", s, show(h), e, show(want), wantErr)
	}
	if e == api.OK {
		checkAgain(t, h)
	}
}

// checkAgain: a head that was read is printed in one way, and read again.
func checkAgain(t *testing.T, h api.Head) {
	t.Helper()
	s, e := Print(h)
	if e != api.OK {
		t.Errorf("Print(%s) is refused: %d", show(h), e)
	}
	again, e := Parse(s)
	if len(s) > 4096 {
		if e != api.ErrHead {
			t.Errorf("Parse of %d bytes is %d", len(s), e)
		}
	} else if !same(again, h) || e != api.OK {
		t.Errorf("%s is read again as %s, %d", show(h), show(again), e)
	}
}

func TestParse(t *testing.T) {
	for s, want := range map[string]api.Head{
		"GET / HTTP/1.1\r\n\r\n":                        head("GET", "/"),
		"get * HTTP/1.1\r\n\r\n":                        head("get", "*"),
		"a b HTTP/1.1\r\n\r\n":                          head("a", "b"),
		"GET HTTP/1.1 HTTP/1.1\r\n\r\n":                 head("GET", "HTTP/1.1"),
		"GET /a:b HTTP/1.1\r\n\r\n":                     head("GET", "/a:b"),
		"GET / HTTP/1.1\r\nHost: a.b\r\n\r\n":           with(field("Host", "a.b")),
		"GET / HTTP/1.1\r\nA:b\r\n\r\n":                 with(field("A", "b")),
		"GET / HTTP/1.1\r\nA:\r\n\r\n":                  with(field("A", "")),
		"GET / HTTP/1.1\r\nA: \t \t\r\n\r\n":            with(field("A", "")),
		"GET / HTTP/1.1\r\nA:\t b \tc \t\r\n\r\n":       with(field("A", "b \tc")),
		"GET / HTTP/1.1\r\nA: b: c:\r\n\r\n":            with(field("A", "b: c:")),
		"GET / HTTP/1.1\r\nA::\r\n\r\n":                 with(field("A", ":")),
		"GET / HTTP/1.1\r\nA: b\r\nA: b\r\n\r\n":        with(field("A", "b"), field("A", "b")),
		"GET / HTTP/1.1\r\nA: 1\r\nb:2\r\na:3\r\n\r\n":  with(field("A", "1"), field("b", "2"), field("a", "3")),
		"GET / HTTP/1.1\r\nA: \xc3\xa9\x80\xff\r\n\r\n": with(field("A", "\xc3\xa9\x80\xff")),
		"GET / HTTP/1.1\r\nA: HTTP/1.1\r\n\r\n":         with(field("A", "HTTP/1.1")),
	} {
		checkParse(t, s, want, api.OK)
	}
}

func TestParseRefuses(t *testing.T) {
	for _, s := range []string{
		"", "\r\n", "\r\n\r\n", "\n\n", "\r\n\r\n\r\n", "\r\r\n\n", "x", "GET", "GET /", "GET / HTTP/1.1",
		// The end.
		"GET / HTTP/1.1\r\n", "GET / HTTP/1.1\n\n", "GET / HTTP/1.1\r\r", "GET / HTTP/1.1\n\r\n", "GET / HTTP/1.1\r\n\n", "GET / HTTP/1.1\r\n\r", "GET / HTTP/1.1\r\n\r\n\r\n", "GET / HTTP/1.1\r\n\r\n\r\n\r\n", "GET / HTTP/1.1\r\n\r\nx", "GET / HTTP/1.1\r\n\r\n\x00", "GET / HTTP/1.1\n\r\n\r",
		"\r\nGET / HTTP/1.1\r\n\r\n", "\nGET / HTTP/1.1\r\n\r\n", "\r\n\r\nGET / HTTP/1.1\r\n\r\n", "GET / HTTP/1.1\r\nA: b\r\n", "GET / HTTP/1.1\r\nA: b", "GET / HTTP/1.1\r\n\r\nA: b\r\n\r\n", "GET / HTTP/1.1\r\nA: b\r\n\r\nC: d\r\n\r\n", "GET / HTTP/1.1\r\n\r\nGET / HTTP/1.1\r\n\r\n",
		// A 13 or a 10 alone.
		"GET / HTTP/1.1\nA: b\r\n\r\n", "GET / HTTP/1.1\rA: b\r\n\r\n", "GET / HTTP/1.1\r\r\n\r\n", "GET / HTTP/1.1\r\nA: b\r\r\n\r\n", "GET / HTTP/1.1\r\nA: b\n\r\n\r\n", "GET / HTTP/1.1\r\nA: b\nC: d\r\n\r\n", "GET / HTTP/1.1\r\nA: b\rC: d\r\n\r\n", "GET / HTTP/1.1\r\nA: b\n\rC: d\r\n\r\n", "GET / HTTP/1.1\r\nA\r: b\r\n\r\n",
		"GET / HTTP/1.1\r\n\nA: b\r\n\r\n", "GET / HTTP/1.1\r\n\rA: b\r\n\r\n", "GET / HTTP/1.1\r\nA: b\r\n\r\r\n\r\n", "GET\r / HTTP/1.1\r\n\r\n", "GET /\r\n HTTP/1.1\r\n\r\n", "GET /\n HTTP/1.1\r\n\r\n", "GET / HTTP/1.1\r\nA:\r\r\n\r\n", "GET / HTTP/1.1\r\nA: \n\r\n\r\n",
		// The first line.
		"GET / HTTP/1.0\r\n\r\n", "GET / HTTP/2\r\n\r\n", "GET / HTTP/1.10\r\n\r\n", "GET / HTTP/1.\r\n\r\n", "GET / http/1.1\r\n\r\n", "GET / HTTP/1.1 \r\n\r\n", "GET / HTTP/1.1\t\r\n\r\n", "GET / HTTP/1.1x\r\n\r\n", "GET / xHTTP/1.1\r\n\r\n", "GET / HTTP/01.1\r\n\r\n", "GET / HTTP/1.1\x00\r\n\r\n",
		"GET  / HTTP/1.1\r\n\r\n", "GET /  HTTP/1.1\r\n\r\n", " GET / HTTP/1.1\r\n\r\n", "GET / a HTTP/1.1\r\n\r\n", "GET\t/\tHTTP/1.1\r\n\r\n", "GET /\tHTTP/1.1\r\n\r\n", "GET\t/ HTTP/1.1\r\n\r\n", "GET / \r\n\r\n", "GET /\r\n\r\n", "GET\r\n\r\n", "/ HTTP/1.1\r\n\r\n", " / HTTP/1.1\r\n\r\n", "GET  HTTP/1.1\r\n\r\n", "  HTTP/1.1\r\n\r\n", "HTTP/1.1\r\n\r\n", "GET HTTP/1.1\r\n\r\n", "HTTP/1.1 HTTP/1.1 HTTP/1.1\r\n\r\n", "HTTP/1.1 / GET\r\n\r\n",
		"G:T / HTTP/1.1\r\n\r\n", "G\x00T / HTTP/1.1\r\n\r\n", "GET /\x00 HTTP/1.1\r\n\r\n", "GET /\x7f HTTP/1.1\r\n\r\n", "GET /\xc3\xa9 HTTP/1.1\r\n\r\n", "A: b\r\n\r\n", "A: b\r\nGET / HTTP/1.1\r\n\r\n", times(21, "A") + " / HTTP/1.1\r\n\r\n",
		// Fields.
		"GET / HTTP/1.1\r\nA\r\n\r\n", "GET / HTTP/1.1\r\nA b\r\n\r\n", "GET / HTTP/1.1\r\nA: b\r\nC\r\n\r\n", "GET / HTTP/1.1\r\nA\r\nC: d\r\n\r\n", "GET / HTTP/1.1\r\n \r\n\r\n", "GET / HTTP/1.1\r\nA=b\r\n\r\n", "GET / HTTP/1.1\r\nGET / HTTP/1.1\r\n\r\n",
		"GET / HTTP/1.1\r\nA : x\r\n\r\n", "GET / HTTP/1.1\r\nA\t: x\r\n\r\n", "GET / HTTP/1.1\r\n A: x\r\n\r\n", "GET / HTTP/1.1\r\n\tA: x\r\n\r\n", "GET / HTTP/1.1\r\n: x\r\n\r\n", "GET / HTTP/1.1\r\n:\r\n\r\n", "GET / HTTP/1.1\r\nA b: x\r\n\r\n", "GET / HTTP/1.1\r\n(A): x\r\n\r\n", "GET / HTTP/1.1\r\nA\x00: x\r\n\r\n", "GET / HTTP/1.1\r\n\xc3\xa9: x\r\n\r\n",
		"GET / HTTP/1.1\r\nA: b\r\n c\r\n\r\n", "GET / HTTP/1.1\r\nA: b\r\n c: d\r\n\r\n", "GET / HTTP/1.1\r\nA: b\r\n\tc: d\r\n\r\n", "GET / HTTP/1.1\r\nA: b\r\n : d\r\n\r\n", "GET / HTTP/1.1\r\nA: \x00\r\n\r\n", "GET / HTTP/1.1\r\nA: b\x0bc\r\n\r\n", "GET / HTTP/1.1\r\nA: \x0cb\r\n\r\n", "GET / HTTP/1.1\r\nA: b\x7f\r\n\r\n", "GET / HTTP/1.1\r\nA: \x1b\r\n\r\n",
	} {
		checkParse(t, s, api.Head{}, api.ErrForm)
		if _, e := plainParse(s); e != api.ErrForm {
			t.Errorf("%q: the tests want ErrForm and %d", s, e)
		}
	}
}

// Each byte is put at each place of a good text, and in each one's stead, and
// each one is left out.
func TestParseOfChangedTexts(t *testing.T) {
	told := map[api.Errno]int{}
	for _, good := range []string{"GET / HTTP/1.1\r\n\r\n", "P /a HTTP/1.1\r\nA: b\r\nc:\t d e \r\n\r\n"} {
		for _, s := range changed(good) {
			want, wantErr := plainParse(s)
			told[wantErr]++
			checkParse(t, s, want, wantErr)
		}
	}
	if told[api.OK] < 100 || told[api.ErrForm] < 100 {
		t.Errorf("only these were told: %v", told)
	}
}

func changed(s string) []string {
	var all []string
	for at := range len(s) + 1 {
		all = append(all, s[:at], s[at:])
		for c := range 256 {
			all = append(all, s[:at]+bytesText(byte(c))+s[at:])
			if at < len(s) {
				all = append(all, s[:at]+bytesText(byte(c))+s[at+1:])
			}
		}
		if at < len(s) {
			all = append(all, s[:at]+s[at+1:])
		}
	}
	return all
}

// All texts of a few pieces that matter stand behind a good first line, and
// ahead of a good end.
func TestParseOfAllShortMiddles(t *testing.T) {
	pieces := []string{"a", ":", " ", "\t", "\r", "\n", "\r\n", "HTTP/1.1"}
	middles := []string{""}
	for i := 0; i < len(middles); i++ {
		for _, s := range []string{"GET / HTTP/1.1\r\n" + middles[i] + "\r\n\r\n", "GET" + middles[i] + "HTTP/1.1\r\n\r\n", middles[i]} {
			want, wantErr := plainParse(s)
			checkParse(t, s, want, wantErr)
		}
		if i < 600 {
			for _, piece := range pieces {
				middles = append(middles, middles[i]+piece)
			}
		}
	}
}

func picker(seed uint64) func(int) int {
	return func(below int) int {
		seed = seed*6364136223846793005 + 1442695040888963407
		return int(seed>>33) % below
	}
}

func TestParseOfMixedTexts(t *testing.T) {
	pick := picker(9)
	firsts := []string{"GET / HTTP/1.1", "GET " + times(1000, "/") + " HTTP/1.1", "GET " + times(1001, "/") + " HTTP/1.1", "G(T / HTTP/1.1", "GET /", times(20, "A") + " * HTTP/1.1", times(21, "A") + " * HTTP/1.1"}
	lines := []string{"a: b", "A:c", "b :c", "c", "", "d:" + times(500, " ") + "x", "e: " + times(999, "y"), "e: " + times(1000, "y"), "f: \x00", "g:\t", " h: i"}
	told := map[api.Errno]int{}
	for range 20000 {
		text := []string{firsts[0]}
		if pick(3) == 0 {
			text[0] = firsts[pick(len(firsts))]
		}
		good, most := 1+pick(len(lines)), 1+pick(34)
		for range pick(most) {
			line := lines[pick(2)]
			if pick(8) == 0 {
				line = lines[pick(good)]
			}
			text = append(text, line)
		}
		s := strings.Join(text, "\r\n") + "\r\n\r\n"
		want, wantErr := plainParse(s)
		told[wantErr]++
		checkParse(t, s, want, wantErr)
	}
	if told[api.OK] < 1000 || told[api.ErrForm] < 1000 || told[api.ErrHead] < 1000 {
		t.Errorf("only these were told: %v", told)
	}
}

// sized is a text of a good head of so many bytes.
func sized(n int) (string, api.Head) {
	const ahead, behind = "GET / HTTP/1.1\r\n", "\r\n"
	var fields []api.Field
	left := n - len(ahead+behind)
	for left > 0 {
		size := left // of the whole line
		if size > 900 {
			size = 800
		}
		fields = append(fields, field("a", times(size-5, "b")))
		left -= size
	}
	s := ahead
	for _, f := range fields {
		s += f.Name + ": " + f.Value + "\r\n"
	}
	return s + behind, with(fields...)
}

func TestParseOfBounds(t *testing.T) {
	const first = "GET / HTTP/1.1\r\n"
	for n := 4090; n <= 4102; n++ {
		s, h := sized(n)
		if len(s) != n {
			t.Fatalf("%d bytes instead of %d", len(s), n)
		}
		if n > 4096 {
			checkParse(t, s, api.Head{}, api.ErrHead)
		} else {
			checkParse(t, s, h, api.OK)
		}
	}
	thirty, long := times(30, "a: b\r\n"), "a:"+times(1000, "b")+"\r\n"
	for _, c := range []struct {
		s    string
		want api.Errno
	}{
		// More than may be is told ahead of all else.
		{times(4097, "x"), api.ErrHead}, {times(4096, "x"), api.ErrForm}, {times(4097, "\n"), api.ErrHead}, {times(2048, "\r\n"), api.ErrForm}, {times(2049, "\r\n"), api.ErrHead}, {times(100000, " "), api.ErrHead}, {times(4097, "\x00"), api.ErrHead},
		{first + times(31, "a: b\r\n") + "\r\n", api.ErrHead}, {first + thirty + "a\r\n\r\n", api.ErrForm}, {first + thirty + "\r\n\r\n", api.ErrForm}, {first + thirty + " a: b\r\n\r\n", api.ErrHead}, {first + thirty + "a: b\x00\r\n\r\n", api.ErrHead}, {first + thirty + "a: b\rc\r\n\r\n", api.ErrForm}, {first + thirty + "a: b\n\r\n\r\n", api.ErrForm},
		{first + long + "\r\n", api.ErrHead}, {first + long + "a\r\n\r\n", api.ErrForm}, {first + long + "a :b\r\n\r\n", api.ErrHead}, {first + "a :b\r\n" + long + "\r\n", api.ErrForm}, {first + long + "a: b\r\n", api.ErrForm},
		{"GET " + times(1001, "/") + " HTTP/1.1\r\n\r\n", api.ErrHead}, {"GET " + times(1001, "/") + " HTTP/1.0\r\n\r\n", api.ErrForm}, {"GET " + times(1001, "/") + " HTTP/1.1\r\na\r\n\r\n", api.ErrForm}, {"GET " + times(1001, "/") + " HTTP/1.1\r\na : b\r\n\r\n", api.ErrHead}, {"G(T " + times(1001, "/") + " HTTP/1.1\r\n\r\n", api.ErrForm},
	} {
		checkParse(t, c.s, api.Head{}, c.want)
	}
	checkParse(t, first+thirty+"\r\n", with(fieldsOf(30, field("a", "b"))...), api.OK)
	checkParse(t, "GET "+times(1000, "/")+" HTTP/1.1\r\n\r\n", head("GET", times(1000, "/")), api.OK)
	checkParse(t, times(20, "A")+" / HTTP/1.1\r\n\r\n", head(times(20, "A"), "/"), api.OK)
	// What is trimmed away doesn't count.
	checkParse(t, first+"a:"+times(1000, " ")+times(999, "b")+times(1000, "\t")+"\r\n\r\n", with(field("a", times(999, "b"))), api.OK)
}

// What Print tells is read as what was printed, unless it is too large.
func TestPrintIsReadAgain(t *testing.T) {
	pick := picker(10)
	names := []string{"a", "A-b", signs, times(300, "n")}
	values := []string{"", "x", "x \t y", ": :", "\xff\x80", "HTTP/1.1", times(700, "v")}
	large := 0
	for range 3000 {
		h := head([]string{"GET", "x", signs}[pick(3)], []string{"/", "*", ":", times(1000, "t")}[pick(4)])
		for range pick(31) {
			h.Fields = append(h.Fields, field(names[pick(4)], values[pick(len(values))]))
		}
		if s, _ := Print(h); len(s) > 4096 {
			large++
		}
		checkAgain(t, h)
	}
	if large == 0 || large == 3000 {
		t.Errorf("%d were too large", large)
	}
}

func TestPlainReaderReads(t *testing.T) {
	h, e := plainParse("GET /a HTTP/1.1\r\nA:  x y \r\nb:\r\na: z\r\n\r\n")
	if e != api.OK || !same(h, head("GET", "/a", field("A", "x y"), field("b", ""), field("a", "z"))) || !slices.Equal(Get(h, "A"), []string{"x y", "z"}) {
		t.Error(show(h), e)
	}
}
