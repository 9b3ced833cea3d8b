package head

import (
	"fmt"
	"regexp"
	"slices"
	"strings"
	"testing"

	"gatewicket/api"
)

const (
	letters = "abcdefghijklmnopqrstuvwxyzABCDEFGHIJKLMNOPQRSTUVWXYZ0123456789"
	signs   = "!#$%&'*+-.^_|~\x60"
)

func field(name, value string) api.Field { return api.Field{Name: name, Value: value} }

func head(method, target string, fields ...api.Field) api.Head {
	return api.Head{Method: method, Target: target, Fields: fields}
}

// with is a good head with these fields.
func with(fields ...api.Field) api.Head { return head("GET", "/", fields...) }

func fieldsOf(n int, f api.Field) []api.Field { return slices.Repeat([]api.Field{f}, n) }

func times(n int, s string) string { return strings.Repeat(s, n) }

func bytesText(c ...byte) string { return string(c) }

// show tells all of h in short.
func show(h api.Head) string {
	text := fmt.Sprintf("%q", h)
	if len(text) > 100 {
		return text[:100] + ".."
	}
	return text
}

func same(a, b api.Head) bool {
	return a.Method == b.Method && a.Target == b.Target && slices.Equal(a.Fields, b.Fields)
}

// checkCheck asks Check, and whether Print says the same.
func checkCheck(t *testing.T, h api.Head, want api.Errno) {
	t.Helper()
	if e := Check(h); e != want {
		t.Errorf("Check(%s) = %d; want %d", show(h), e, want)
	}
	text, e := Print(h)
	if wantText := plainPrint(h, want); text != wantText || e != want {
		t.Errorf("Print(%s) = %.100q, %d; want %.100q, %d", show(h), text, e, wantText, want)
	}
}

// plainPrint is P24's Print of a head of which Check tells that error.
func plainPrint(h api.Head, e api.Errno) string {
	if e != api.OK {
		return ""
	}
	text := fmt.Sprintf("%s %s HTTP/1.1\r\n", h.Method, h.Target)
	for _, f := range h.Fields {
		text += fmt.Sprintf("%s: %s\r\n", f.Name, f.Value)
	}
	return text + "\r\n"
}

var (
	plainMethod = regexp.MustCompile(`\A[A-Za-z0-9!#$%&'*+.^_|~\x60-]{1,20}\z`)
	plainTarget = regexp.MustCompile(`\A[!-~]+\z`)
	plainName   = regexp.MustCompile(`\A[A-Za-z0-9!#$%&'*+.^_|~\x60-]+\z`)
	plainValue  = regexp.MustCompile(`\A(|[^\x00-\x20\x7f]|[^\x00-\x20\x7f][^\x00-\x08\x0a-\x1f\x7f]*[^\x00-\x20\x7f])\z`)
)

// plainCheck is P23 as it is told, with the library's expressions.
func plainCheck(h api.Head) api.Errno {
	switch {
	case !plainMethod.MatchString(h.Method), !plainTarget.MatchString(h.Target):
		return api.ErrForm
	case len(h.Target) > 1000, len(h.Fields) > 30:
		return api.ErrHead
	}
	for _, f := range h.Fields {
		switch {
		case !plainName.MatchString(f.Name), !plainValue.MatchString(f.Value):
			return api.ErrForm
		case len(f.Name+f.Value) > 1000:
			return api.ErrHead
		}
	}
	return api.OK
}

func TestCheck(t *testing.T) {
	for _, h := range []api.Head{
		head("GET", "/"), head("get", "*"), head("a", "x"), head("M-SEARCH", "http://a.b:80/?c=d#e"), head(signs, "~!"), head("1", ":"),
		with(field("Host", "a.b")), with(field("a", "")), with(field(signs, "x")), with(field("1", "x y")), with(field("a", "x\ty  \t z")), with(field("a", ":")),
		with(field("a", "b"), field("a", "b"), field("A", "c")), with(field("a", "\xc3\xa9")), with(field("a", "\x80\xff")), with(field("Content-Length", "x")), with(field("a", "\"\\,;=()<>@[]{}?/")),
	} {
		checkCheck(t, h, api.OK)
	}
}

func TestCheckRefuses(t *testing.T) {
	for _, h := range []api.Head{
		{}, head("", "/"), head("GET", ""), head("G T", "/"), head(" GET", "/"), head("GET ", "/"), head("GET:", "/"), head("G\x00T", "/"), head("G\xc3\x89T", "/"), head("(GET)", "/"), head("G/T", "/"),
		head("GET", " "), head("GET", "/ "), head("GET", " /"), head("GET", "/a b"), head("GET", "/\t"), head("GET", "/\r"), head("GET", "/\n"), head("GET", "/\x00"), head("GET", "/\x7f"), head("GET", "/\x80"), head("GET", "/\xc3\xa9"), head("GET", "/ HTTP/1.1"),
		with(field("", "x")), with(field("", "")), with(field("a ", "x")), with(field(" a", "x")), with(field("a b", "x")), with(field("a:", "x")), with(field("a\r\n", "x")), with(field("\xc3\xa9", "x")), with(field("a/b", "x")), with(field("(a)", "x")),
		with(field("a", " x")), with(field("a", "x ")), with(field("a", "\tx")), with(field("a", "x\t")), with(field("a", " ")), with(field("a", "\t")), with(field("a", "x\r\nb: y")), with(field("a", "x\n")), with(field("a", "\r")), with(field("a", "x\x00y")), with(field("a", "\x7f")),
		with(field("a", "b"), field("c", "d "), field("e", "f")), with(field("a", "b"), field("c", "d"), field("", "f")), with(field("a\x00", "b"), field("c", "d")),
	} {
		checkCheck(t, h, api.ErrForm)
	}
}

// Each byte is tried alone, at the beginning, in the middle, and at the end.
func TestCheckOfEachByte(t *testing.T) {
	refused := func(bad bool) api.Errno {
		if bad {
			return api.ErrForm
		}
		return api.OK
	}
	for i := range 256 {
		c := bytesText(byte(i))
		token := strings.Contains(letters+signs, c)
		target := i >= 33 && i <= 126
		value := i == 9 || i >= 32 && i != 127
		edge := value && i != 9 && i != 32
		for _, s := range []string{c, c + "a", "a" + c + "a", "a" + c} {
			checkCheck(t, head(s, "/"), refused(!token))
			checkCheck(t, head("GET", s), refused(!target))
			checkCheck(t, with(field(s, "x")), refused(!token))
			inside := s == "a"+c+"a"
			checkCheck(t, with(field("a", s)), refused(!edge && !(inside && value)))
		}
	}
}

func TestCheckOfBounds(t *testing.T) {
	good, bad, long := field("a", "b"), field("a b", "c"), field("a", times(1000, "b"))
	for _, c := range []struct {
		h    api.Head
		want api.Errno
	}{
		{head(times(20, "A"), "/"), api.OK}, {head(times(21, "A"), "/"), api.ErrForm}, {head(times(100000, "A"), "/"), api.ErrForm},
		{head("GET", times(1000, "/")), api.OK}, {head("GET", times(1001, "/")), api.ErrHead}, {head("GET", times(100000, "/")), api.ErrHead},
		{with(fieldsOf(30, good)...), api.OK}, {with(fieldsOf(31, good)...), api.ErrHead}, {with(fieldsOf(10000, good)...), api.ErrHead},
		{with(field("a", times(999, "b"))), api.OK}, {with(long), api.ErrHead}, {with(field(times(1000, "a"), "")), api.OK}, {with(field(times(1001, "a"), "")), api.ErrHead},
		{with(field(times(500, "a"), times(500, "b"))), api.OK}, {with(field(times(501, "a"), times(500, "b"))), api.ErrHead}, {with(field(times(500, "a"), times(501, "b"))), api.ErrHead},
		{with(fieldsOf(30, field("a", times(999, "b")))...), api.OK}, {with(good, long, good), api.ErrHead}, {with(good, good, long), api.ErrHead},
		// The first line's form comes first, then what is too much of the whole, then field by field.
		{head("G T", times(1001, "/")), api.ErrForm}, {head(times(21, "A"), times(1001, "/")), api.ErrForm}, {head("GET", times(1001, "/")+" "), api.ErrForm}, {head("", "/", fieldsOf(31, good)...), api.ErrForm}, {head("GET", "", long), api.ErrForm},
		{head("GET", times(1001, "/"), bad), api.ErrHead}, {with(append(fieldsOf(30, good), bad)...), api.ErrHead}, {with(fieldsOf(31, bad)...), api.ErrHead},
		{with(append(fieldsOf(29, good), bad)...), api.ErrForm}, {with(bad, long), api.ErrForm}, {with(long, bad), api.ErrHead}, {with(good, bad, long), api.ErrForm}, {with(good, long, bad), api.ErrHead},
		{with(field("a b", times(1000, "c"))), api.ErrForm}, {with(field("a", times(1000, "c")+" ")), api.ErrForm}, {with(field("a", times(1000, " "))), api.ErrForm}, {with(field("", times(1001, "c"))), api.ErrForm},
	} {
		checkCheck(t, c.h, c.want)
		if plain := plainCheck(c.h); plain != c.want {
			t.Errorf("%s: the tests want %d and %d", show(c.h), c.want, plain)
		}
	}
}

func TestPrint(t *testing.T) {
	for want, h := range map[string]api.Head{
		"GET / HTTP/1.1\r\n\r\n":                                                head("GET", "/"),
		"a b HTTP/1.1\r\n\r\n":                                                  head("a", "b"),
		"GET / HTTP/1.1\r\nA: b\r\n\r\n":                                        with(field("A", "b")),
		"GET / HTTP/1.1\r\nA: \r\n\r\n":                                         with(field("A", "")),
		"PUT /a?b HTTP/1.1\r\nb: x \t y\r\na: :\r\nB: \xff\r\n\r\n":             head("PUT", "/a?b", field("b", "x \t y"), field("a", ":"), field("B", "\xff")),
		"GET / HTTP/1.1\r\n" + times(30, "a: "+times(999, "b")+"\r\n") + "\r\n": with(fieldsOf(30, field("a", times(999, "b")))...),
	} {
		if s, e := Print(h); s != want || e != api.OK {
			t.Errorf("Print(%s) = %.100q, %d; want %.100q", show(h), s, e, want)
		}
	}
}

func TestGet(t *testing.T) {
	h := with(field("A", "x y"), field("b", ""), field("a", "z"), field("aa", "1"), field("A-b", "2"), field("", "3"), field("\xc3\x89", "4"), field("k", "5"), field("A ", " 6\r\n"), field("a", "x y"))
	for name, want := range map[string][]string{
		"a": {"x y", "z", "x y"}, "A": {"x y", "z", "x y"}, "b": {""}, "B": {""}, "aA": {"1"}, "a-B": {"2"}, "": {"3"}, "\xc3\x89": {"4"}, "K": {"5"}, "a ": {" 6\r\n"},
		"c": nil, "ab": nil, " a": nil, "a:": nil, "a-": nil, "\xc3\xa9": nil, "\xe2\x84\xaa": nil, "-": nil, "A\x00": nil,
	} {
		if l := Get(h, name); !slices.Equal(l, want) {
			t.Errorf("Get of %q is %q; want %q", name, l, want)
		}
	}
	for _, h := range []api.Head{{}, with(), with(field("b", "a"))} {
		if l := Get(h, "a"); len(l) > 0 {
			t.Errorf("Get(%s) = %q; want none", show(h), l)
		}
	}
}

// What Check refuses is looked at, too, and as many fields as there are.
func TestGetOfAnyHead(t *testing.T) {
	many := fieldsOf(1000, field("a b", "\n"))
	for i := range many {
		many[i].Value = fmt.Sprint(i, "\n")
	}
	l := Get(head("", "", many...), "A B")
	if len(l) != 1000 {
		t.Fatalf("Get tells %d of 1000", len(l))
	}
	for i, value := range l {
		if value != many[i].Value {
			t.Errorf("value %d is %q", i, value)
		}
	}
}

func TestGetOfEachByte(t *testing.T) {
	for a := range 256 {
		for b := range 256 {
			capital, small := min(a, b), max(a, b)
			is := a == b || small == capital+32 && capital >= 'A' && capital <= 'Z'
			l := Get(with(field("x"+bytesText(byte(a)), "v")), "X"+bytesText(byte(b)))
			if is != (len(l) == 1) {
				t.Errorf("bytes %d and %d: %q", a, b, l)
			}
		}
	}
}
