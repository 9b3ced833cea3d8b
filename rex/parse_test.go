package rex

import (
	"regexp"
	"strconv"
	"strings"
	"testing"

	"gatewicket/api"
)

func wordLetters() string {
	return "ABCDEFGHIJKLMNOPQRSTUVWXYZabcdefghijklmnopqrstuvwxyz0123456789_"
}

func notOf(r api.Rex) api.Rex {
	var b []byte
	for c := range 256 {
		if r.Set[c/64]>>(c%64)&1 == 0 {
			b = append(b, byte(c))
		}
	}
	return sign(string(b))
}

func checkParse(t *testing.T, s string, want api.Rex) {
	t.Helper()
	if r, at, e := Parse(s); !same(r, want) || at != 0 || e != api.OK {
		t.Fatalf("Parse(%q) = %s, %d, %d; want %s", s, show(r), at, e, show(want))
	}
}

func checkParseErr(t *testing.T, s string, at int, e api.Errno) {
	t.Helper()
	if r, gotAt, gotErr := Parse(s); !same(r, api.Rex{}) || gotAt != at || gotErr != e {
		t.Fatalf("Parse(%q) = %s, %d, %d; want %d, %d", s, show(r), gotAt, gotErr, at, e)
	}
}

func TestParse(t *testing.T) {
	a, b, c, empty := sign("a"), sign("b"), sign("c"), leaf(api.REmpty)
	begin, end := leaf(api.RBegin), leaf(api.REnd)
	for _, x := range []struct {
		s    string
		want api.Rex
	}{
		{"", empty}, {"a", a}, {"ab", cat(a, b)}, {"abc", cat(cat(a, b), c)}, {"a(bc)", cat(a, cat(b, c))}, {"(ab)c", cat(cat(a, b), c)}, {"(a)", a}, {"((a))", a}, {"()", empty}, {"(())", empty}, {"()()", cat(empty, empty)}, {"a()", cat(a, empty)},
		{"a|b", alt(a, b)}, {"a|b|c", alt(alt(a, b), c)}, {"a|(b|c)", alt(a, alt(b, c))}, {"ab|c", alt(cat(a, b), c)}, {"a|bc", alt(a, cat(b, c))}, {"|", alt(empty, empty)}, {"a|", alt(a, empty)}, {"|a", alt(empty, a)}, {"||", alt(alt(empty, empty), empty)}, {"a||b", alt(alt(a, empty), b)}, {"(|a)b", cat(alt(empty, a), b)}, {"(a|b)c", cat(alt(a, b), c)}, {"()|()", alt(empty, empty)},
		{"a*", star(a)}, {"a+", cat(a, star(a))}, {"a?", alt(a, empty)}, {"ab*", cat(a, star(b))}, {"(ab)*", star(cat(a, b))}, {"a*b", cat(star(a), b)}, {"a|b*", alt(a, star(b))}, {"ab+c", cat(cat(a, cat(b, star(b))), c)}, {"(a|b)+", cat(alt(a, b), star(alt(a, b)))}, {"ab?", cat(a, alt(b, empty))}, {"()*", star(empty)}, {"(a*)*", star(star(a))},
		{"a**", star(star(a))}, {"a*?", alt(star(a), empty)}, {"a?*", star(alt(a, empty))}, {"a+?", alt(cat(a, star(a)), empty)}, {"a?+", cat(alt(a, empty), star(alt(a, empty)))}, {"a++", cat(cat(a, star(a)), star(cat(a, star(a))))}, {"a*+", cat(star(a), star(star(a)))}, {"a??", alt(alt(a, empty), empty)},
		{"^", begin}, {"$", end}, {"^a$", cat(cat(begin, a), end)}, {"a^b$c", cat(cat(cat(cat(a, begin), b), end), c)}, {"^*", star(begin)}, {"$+", cat(end, star(end))}, {"^?", alt(begin, empty)}, {"(^|a)", alt(begin, a)}, {"^^$$", cat(cat(cat(begin, begin), end), end)},
		{".", notOf(sign("\n"))}, {".*", star(notOf(sign("\n")))}, {"\\.", sign(".")},
		{"\\d", sign("0123456789")}, {"\\w", sign(wordLetters())}, {"\\s", sign("\t\n\v\f\r ")}, {"\\d+", cat(sign("0123456789"), star(sign("0123456789")))}, {"\\dd", cat(sign("0123456789"), sign("d"))}, {"\\\\d", cat(sign("\\"), sign("d"))},
		{"\\n\\t\\r", cat(cat(sign("\n"), sign("\t")), sign("\r"))}, {"n", sign("n")}, {"\\x00", sign("\x00")}, {"\\xff", sign("\xff")}, {"\\x41", sign("A")}, {"\\x0a", sign("\n")}, {"\\x2a", sign("*")}, {"\\x411", cat(sign("A"), sign("1"))}, {"x41", cat(cat(sign("x"), sign("4")), sign("1"))}, {"\\x5c", sign("\\")},
		{"[a]", a}, {"[ab]", sign("ab")}, {"[ba]", sign("ab")}, {"[aa]", a}, {"[a-c]", sign("abc")}, {"[a-a]", a}, {"[a-b]", sign("ab")}, {"[a-cx-z]", sign("abcxyz")}, {"[a-cb-d]", sign("abcd")}, {"[a-c\\d]", sign("abc0123456789")}, {"[\\d\\w\\s]", sign(wordLetters() + "\t\n\v\f\r ")}, {"[\\da]", sign("0123456789a")}, {"[\\x00-\\xff]", span(0, 255)}, {"[!-~]", span(33, 126)}, {"[\\--\\.]", sign("-.")}, {"[\\(-\\+]", sign("()*+")}, {"[\\]]", sign("]")}, {"[\\[\\]\\\\\\^\\-]", sign("[]\\^-")}, {"[\\t-\\r]", span(9, 13)}, {"[\\t\\n]", sign("\t\n")},
		{"[^a]", notOf(a)}, {"[^a-c]", notOf(sign("abc"))}, {"[^\\d\\s]", notOf(sign("0123456789\t\n\v\f\r "))}, {"[^\\n]", notOf(sign("\n"))}, {"[^\\^]", notOf(sign("^"))}, {"[\\^a]", sign("^a")}, {"[^\\x00-\\xfe]", sign("\xff")}, {"[^\\x01-\\xff]", sign("\x00")}, {"[^\\x00-`b-\\xff]", a},
		{"[a]*", star(a)}, {"[a][b]", cat(a, b)}, {"[a]b", cat(a, b)}, {"([a])", a}, {"{1,2}", cat(cat(cat(cat(sign("{"), sign("1")), sign(",")), sign("2")), sign("}"))},
	} {
		checkParse(t, x.s, x.want)
	}
}

// Each byte alone, behind a \, and in a class: it stands for itself, or it can't stand there.
func TestParseOfEachByte(t *testing.T) {
	const signs = "()[]|*+?.^$-\\"
	special := map[string]api.Rex{"|": alt(leaf(api.REmpty), leaf(api.REmpty)), ".": notOf(sign("\n")), "^": leaf(api.RBegin), "$": leaf(api.REnd)}
	unfinished := map[string]int{"(": 1, "[": 1, "\\": 1}
	escaped := map[string]api.Rex{"n": sign("\n"), "t": sign("\t"), "r": sign("\r"), "d": sign("0123456789"), "w": sign(wordLetters()), "s": sign("\t\n\v\f\r ")}
	for c := range 256 {
		s := string([]byte{byte(c)})
		isSign, plain := strings.Contains(signs, s), c >= 33 && c <= 126
		r, isSpecial := special[s]
		switch {
		case isSpecial:
			checkParse(t, s, r)
		case plain && !isSign:
			checkParse(t, s, sign(s))
			checkParse(t, "["+s+"]", sign(s))
			checkParse(t, "[^"+s+"]", notOf(sign(s)))
		default:
			checkParseErr(t, s, unfinished[s], api.ErrSyntax)
		}
		r, isEscaped := escaped[s]
		switch {
		case s == "x":
			checkParseErr(t, "\\x", 2, api.ErrSyntax)
			checkParseErr(t, "[\\x]", 3, api.ErrSyntax)
		case isEscaped:
			checkParse(t, "\\"+s, r)
			checkParse(t, "[\\"+s+"]", r)
			checkParse(t, "[^\\"+s+"]", notOf(r))
		case isSign:
			checkParse(t, "\\"+s, sign(s))
			checkParse(t, "[\\"+s+"]", sign(s))
			checkParse(t, "[\\"+s+"-\\"+s+"]", sign(s))
		default:
			checkParseErr(t, "\\"+s, 1, api.ErrSyntax)
			checkParseErr(t, "[a\\"+s+"]", 3, api.ErrSyntax)
		}
		if (!plain || isSign) && s != "]" && s != "-" && s != "\\" {
			checkParseErr(t, "[a"+s+"]", 2, api.ErrSyntax)
		}
	}
}

func TestParseOfBytesInBase16(t *testing.T) {
	const digits = "0123456789abcdef"
	for c := range 256 {
		s := string([]byte{byte(c)})
		n := strings.Index(digits, s)
		if n < 0 {
			checkParseErr(t, "\\x"+s+"0", 2, api.ErrSyntax)
			checkParseErr(t, "\\x0"+s, 3, api.ErrSyntax)
			continue
		}
		for k := range 16 {
			checkParse(t, "\\x"+s+digits[k:k+1], sign(string([]byte{byte(n*16 + k)})))
		}
	}
}

func TestParseRefuses(t *testing.T) {
	for _, x := range []struct {
		s  string
		at int
	}{
		{"(", 1}, {"(a", 2}, {"((a)", 4}, {"(a|", 3}, {")", 0}, {"a)", 1}, {"(a))", 3}, {"a|)", 2}, {"()", -1}, {"())", 2}, {"(]", 1},
		{"*", 0}, {"+", 0}, {"?", 0}, {"|*", 1}, {"a|*", 2}, {"(*a)", 1}, {"(+)", 1}, {"()(?", 3}, {"]", 0}, {"a]", 1}, {"-", 0}, {"a-b", 1}, {"[a]]", 3},
		{"\\", 1}, {"a\\", 2}, {"\\q", 1}, {"a\\q", 2}, {"\\D", 1}, {"\\a", 1}, {"\\0", 1}, {"\\ ", 1}, {"\\x", 2}, {"\\x4", 3}, {"\\x4g", 3}, {"\\x4G", 3}, {"\\x4A", 3}, {"\\xA4", 2}, {"\\xg", 2}, {"\\x(", 2}, {"\\X41", 1}, {"\\N", 1},
		{"[", 1}, {"[a", 2}, {"[]", 1}, {"[]a]", 1}, {"[^", 2}, {"[^]", 2}, {"[^]a]", 2}, {"[^^]", 2}, {"[^^a]", 2}, {"[a^]", 2}, {"[[]", 1}, {"[a[]", 2}, {"[(]", 1}, {"[a)]", 2}, {"[.]", 1}, {"[*]", 1}, {"[a|b]", 2}, {"[$]", 1}, {"[a?]", 2}, {"[+]", 1},
		{"[-a]", 1}, {"[-]", 1}, {"[a-]", 3}, {"[a-", 3}, {"[a--]", 3}, {"[a-b-c]", 4}, {"[a-b-", 4}, {"[\\d-a]", 3}, {"[\\w-]", 3}, {"[a-\\d]", 4}, {"[a-\\w]", 4}, {"[a-\\s", 4}, {"[a-\\", 4}, {"[a-\\q]", 4}, {"[a-[]", 3}, {"[a-(]", 3}, {"[a-\\x6", 6}, {"[a-\\x6g]", 6}, {"[a-b", 4},
		{"[b-a]", 3}, {"[b-a", 3}, {"[b-a-", 3}, {"[ab-a]", 4}, {"[a-bb-a]", 6}, {"[b-\\x61]", 3}, {"[b-\\x61", 3}, {"[b-\\x6", 6}, {"[b-\\x6g", 6}, {"[b-\\", 4}, {"[b-\\n]", 3}, {"[\\x62-a]", 6}, {"[\\x62-\\x61]", 6}, {"[^b-a]", 4}, {"[\\.-\\-]", 4}, {"[\\n-\\t]", 4}, {"[\\xff-\\x00]", 6}, {"[b-a)", 3}, {"[b-a][", 3}, {"(([b-a", 5},
		{"[^\\x00-\\xff]", 11}, {"[^\\x00-\\xff]*", 11}, {"a[^\\x00-\\xff]", 12}, {"[^\\x00-\\xff", 11}, {"[^\\x00-\\xff*]", 11}, {"[^\\x00-~\\x7f-\\xff]", 17}, {"[^\\x00-\\xffa]", 12}, {"[^\\x00-\\xffb-a]", 13}, {"[^\\d\\x00-/:-\\xff]", 16},
		{" ", 0}, {"a b", 1}, {"a\n", 1}, {"\x00", 0}, {"a\x00", 1}, {"\x7f", 0}, {"a\x80", 1}, {"\xff", 0}, {"[ ]", 1}, {"[a\x00]", 2}, {"[a-\x7f]", 3}, {"(\x00", 1}, {"[a\x00", 2}, {"\\\x00", 1}, {"\\x\x00", 2}, {"a|\x00", 2}, {"a*\x00", 2}, {"é", 0},
	} {
		if x.at < 0 {
			checkParse(t, x.s, leaf(api.REmpty))
			continue
		}
		checkParseErr(t, x.s, x.at, api.ErrSyntax)
	}
}

func nested(n int, s string) string { return strings.Repeat("(", n) + s + strings.Repeat(")", n) }

func TestParseOfDeepTexts(t *testing.T) {
	a := sign("a")
	checkParse(t, nested(19, "a"), a)
	checkParse(t, nested(20, "a"), a)
	checkParse(t, nested(20, ""), leaf(api.REmpty))
	checkParse(t, nested(20, "a")+nested(20, "a"), cat(a, a))
	checkParse(t, nested(19, "(a)(a)"), cat(a, a))
	checkParseErr(t, nested(21, "a"), 20, api.ErrDeep)
	checkParseErr(t, nested(100, ""), 20, api.ErrDeep)
	checkParseErr(t, strings.Repeat("(", 21), 20, api.ErrDeep)
	checkParseErr(t, strings.Repeat("(", 200), 20, api.ErrDeep)
	checkParseErr(t, strings.Repeat("(", 20), 20, api.ErrSyntax)
	checkParseErr(t, "b|"+nested(20, "a(a)"), 23, api.ErrDeep)
	checkParseErr(t, nested(20, "a")+nested(21, "a"), 61, api.ErrDeep)
	checkParseErr(t, strings.Repeat("(", 20)+"*(", 20, api.ErrSyntax)
	checkParseErr(t, strings.Repeat("(", 21)+"*", 20, api.ErrDeep)
	checkParseErr(t, "*"+strings.Repeat("(", 30), 0, api.ErrSyntax)
	checkParseErr(t, strings.Repeat("(", 20)+"[(", 21, api.ErrSyntax)
	checkParse(t, nested(20, "\\("), sign("("))
}

// What is read may be too large or too deep: that is told at the end.
func TestParseChecksAtTheEnd(t *testing.T) {
	many := func(n int, s string) string { return strings.Repeat(s, n) }
	wide := func(n int) string { return many(n, "("+many(9, "a")+")") } // each 17 nodes
	for _, x := range []struct {
		s    string
		want api.Errno
	}{
		{many(19, "a"), api.OK}, {many(20, "a"), api.OK}, {many(21, "a"), api.ErrDeep}, {many(200, "a"), api.ErrDeep}, {"a" + many(19, "*"), api.OK}, {"a" + many(20, "*"), api.ErrDeep}, {"a" + many(199, "*"), api.ErrDeep}, {many(19, "|"), api.OK}, {many(20, "|"), api.ErrDeep}, {many(200, "|"), api.ErrDeep},
		{"a" + many(19, "?"), api.OK}, {"a" + many(20, "?"), api.ErrDeep}, {"a++++", api.OK}, {"a+++++", api.ErrLarge}, {"a" + many(10, "+"), api.ErrLarge}, {"a" + many(18, "+"), api.ErrDeep}, {"a" + many(19, "+"), api.ErrDeep}, {"a" + many(20, "+"), api.ErrDeep}, {"a" + many(199, "+"), api.ErrDeep},
		{wide(4), api.OK}, {wide(4) + "a*(bbb)", api.OK}, {wide(4) + "(bb)(bb)", api.OK}, {wide(4) + "(bbbb)", api.OK}, {wide(4) + "(bb)a*b", api.OK}, {wide(4) + "(bb)a*b*", api.ErrLarge}, {wide(4) + "(bbbb)(b)", api.ErrLarge}, {wide(8), api.ErrLarge}, {wide(4) + nested(10, "(bbbb)(b)"), api.ErrLarge},
		{nested(10, "a"+many(15, "*")+"b") + many(5, "*"), api.ErrDeep},
	} {
		r, at, e := Parse(x.s)
		if e != x.want || e == api.OK && at != 0 || e != api.OK && (at != len(x.s) || !same(r, api.Rex{})) {
			t.Errorf("Parse(%q) = %s, %d, %d; want %d", x.s, show(r), at, e, x.want)
		}
		if e == api.OK && Check(r) != api.OK {
			t.Errorf("Parse(%q) is no expression", x.s)
		}
	}
	checkParseErr(t, many(30, "a")+"*)", 31, api.ErrSyntax)
	checkParseErr(t, many(30, "a")+strings.Repeat("(", 21), 50, api.ErrDeep)
}

func TestParseOfLongTexts(t *testing.T) {
	row := "[" + strings.Repeat("ab", 99)
	checkParse(t, row+"]", sign("ab"))
	checkParseErr(t, row+"c", 200, api.ErrSyntax)
	checkParseErr(t, row+"ab]", 0, api.ErrLarge)
	checkParseErr(t, row+"c]", 0, api.ErrLarge)
	for _, n := range []int{201, 202, 100000} {
		for _, s := range []string{"a", "(", "*", "\x00", "|"} {
			checkParseErr(t, strings.Repeat(s, n), 0, api.ErrLarge)
		}
	}
	checkParseErr(t, strings.Repeat("*", 200), 0, api.ErrSyntax)
}

// recognizer tells whether a text is one by cutting it into signs and taking
// away brackets from the inside out. It takes CHAR - CHAR in any order.
type recognizer struct {
	token, pair, group, row *regexp.Regexp
	places                  map[string]int
}

func newRecognizer() recognizer {
	const (
		char  = `(?:[!-#%-',/->@-Z_-{}~]|\\[()\[\]|*+?.^$\-\\ntr]|\\x[0-9a-f][0-9a-f])`
		class = `\\[dws]`
		item  = `(?:` + char + `-` + char + `|` + char + `|` + class + `)`
		row   = `(?:a[*+?]*)*(?:\|(?:a[*+?]*)*)*`
	)
	return recognizer{
		regexp.MustCompile(`^(?:` + char + `|` + class + `|[.^$]|\[\^?` + item + `+\])`),
		regexp.MustCompile(`^(` + char + `)-(` + char + `)`),
		regexp.MustCompile(`\(` + row + `\)`),
		regexp.MustCompile(`^` + row + `$`),
		map[string]int{},
	}
}

func (x recognizer) is(s string) bool {
	var b strings.Builder
	for s != "" {
		if strings.IndexByte("()|*+?", s[0]) >= 0 {
			b.WriteByte(s[0])
			s = s[1:]
			continue
		}
		at := x.token.FindStringIndex(s)
		if at == nil {
			return false
		}
		b.WriteByte('a')
		s = s[at[1]:]
	}
	text := b.String()
	for {
		less := x.group.ReplaceAllString(text, "a")
		if less == text {
			return x.row.MatchString(text)
		}
		text = less
	}
}

// begins is whether a text begins so, of at most six signs.
func (x recognizer) begins(s string) bool {
	for _, rest := range []string{"", "a", "a]", "]", "n", "n]", "00", "00]", "0", "0]"} {
		for open := range 7 {
			if x.is(s + rest + strings.Repeat(")", open)) {
				return true
			}
		}
	}
	return false
}

// place is where s stops being the beginning of a text. Places are kept, as
// the beginnings of most texts are asked again and again.
func (x recognizer) place(s string) int {
	if s == "" {
		return 0
	}
	last := len(s) - 1
	at, known := x.places[s[:last]]
	if !known {
		at = x.place(s[:last])
	}
	if at == last && x.begins(s) {
		at = len(s)
	}
	x.places[s] = at
	return at
}

// wrongPair is where the second CHAR of the first CHAR - CHAR is that is the
// wrong way round; -1, if there is none.
func (x recognizer) wrongPair(s string) int {
	for at := 0; at < len(s); {
		pair := x.pair.FindStringSubmatch(s[at:])
		switch {
		case pair == nil && s[at] == '\\':
			at += 2
		case pair == nil:
			at++
		case value(pair[1]) > value(pair[2]):
			return at + len(pair[1]) + 1
		default:
			at += len(pair[0])
		}
	}
	return -1
}

// value is the byte that a CHAR writes.
func value(char string) byte {
	if len(char) == 4 {
		n, _ := strconv.ParseUint(char[2:], 16, 8)
		return byte(n)
	}
	last := char[len(char)-1]
	if i := strings.IndexByte("ntr", last); len(char) == 2 && i >= 0 {
		return "\n\t\r"[i]
	}
	return last
}

func checkAllTexts(t *testing.T, signs string, most int) {
	x := newRecognizer()
	good, wrongPairs := 0, 0
	for _, s := range textsOf(signs, most) {
		place := x.place(s)
		wrong := x.wrongPair(s[:place])
		r, at, e := Parse(s)
		switch {
		case wrong >= 0:
			wrongPairs++
			checkParseErr(t, s, wrong, api.ErrSyntax)
		case !x.is(s):
			checkParseErr(t, s, place, api.ErrSyntax)
		case e != api.OK || at != 0 || Check(r) != api.OK:
			t.Fatalf("Parse(%q) = %s, %d, %d", s, show(r), at, e)
		default:
			good++
		}
	}
	t.Logf("%s: %d are texts, %d have a pair the wrong way round", signs, good, wrongPairs)
	if good < 100 {
		t.Errorf("too few of them are texts")
	}
}

func TestParseOfAllShortTexts(t *testing.T) {
	checkAllTexts(t, "a()|*", 6)
	checkAllTexts(t, "a()[^-\\d]", 5)
	checkAllTexts(t, "[]^-\\dn", 6)
	checkAllTexts(t, "a[].$+?\\ ", 4)
	checkAllTexts(t, "\\x0aA[]", 5)
	checkAllTexts(t, "()|+?.^$[a]", 4)
}

// Texts of a class with one sign at each place made another one.
func TestParseOfTextsWithOneByteChanged(t *testing.T) {
	x := newRecognizer()
	for _, s := range []string{"a(b|[^a-c\\d]*)+", "[\\x30-\\x39\\-]?", "^\\w(\\.|)$", "[a-\\x7f\\x80-\\xff]"} {
		for i := range len(s) {
			for c := range 256 {
				changed := s[:i] + string([]byte{byte(c)}) + s[i+1:]
				_, _, e := Parse(changed)
				if want := x.is(changed) && x.wrongPair(changed) < 0; (e == api.OK) != want {
					t.Fatalf("Parse(%q) = %d; want it taken: %v", changed, e, want)
				}
			}
		}
	}
}
