package one

import (
	"fmt"
	"math"
	"slices"
	"strings"
	"testing"

	"gatewicket/api"
	"gatewicket/frame"
)

// plainFeed is P30 as it is told, with P29 read plainly.
func plainFeed(r api.Reader, b api.Bounds, s string) (api.Reader, []api.Request, api.Errno) {
	if _, _, e := plainOne("", b); e == api.ErrArg {
		return r, nil, api.ErrArg
	}
	if len(r.Rest) > 65536 || len(s) > 8192 {
		return r, nil, api.ErrLarge
	}
	if r.Over != 0 {
		return r, nil, api.ErrOver
	}
	var all []api.Request
	for rest := r.Rest + s; ; {
		q, n, e := plainOne(rest, b)
		switch e {
		case api.OK:
			all, rest = append(all, q), rest[n:]
		case api.ErrMore:
			return api.Reader{Rest: rest}, all, api.OK
		default:
			return api.Reader{Over: e}, all, e
		}
	}
}

func sameAll(a, b []api.Request) bool { return slices.EqualFunc(a, b, same) }

func show(v any) string {
	text := fmt.Sprintf("%v", v)
	if len(text) > 100 {
		return fmt.Sprintf("%q.. (%d bytes)", text[:100], len(text))
	}
	return fmt.Sprintf("%q", text)
}

func checkFed(t *testing.T, r api.Reader, b api.Bounds, s string, want api.Reader, wantAll []api.Request, wantErr api.Errno) {
	t.Helper()
	next, all, e := Feed(r, b, s)
	if next != want || !sameAll(all, wantAll) || e != wantErr {
		t.Errorf("Feed(%s, %d, %.100q) = %s, %s, %d; want %s, %s, %d", show(r), b, s, show(next), show(all), e, show(want), show(wantAll), wantErr)
	}
}

func checkFedPlainly(t *testing.T, r api.Reader, b api.Bounds, s string) (api.Reader, []api.Request, api.Errno) {
	t.Helper()
	want, all, e := plainFeed(r, b, s)
	checkFed(t, r, b, s, want, all, e)
	return want, all, e
}

func waiting(rest string) api.Reader { return api.Reader{Rest: rest} }

func over(e api.Errno) api.Reader { return api.Reader{Over: e} }

const (
	plain   = first + "\r\n"
	sized   = first + "Content-Length: 3\r\n\r\nabc"
	chunked = first + "Transfer-Encoding: chunked\r\n\r\n2\r\nab\r\n0\r\n\r\n"
)

func TestFeed(t *testing.T) {
	a, b, c := request(""), request("abc", "Content-Length", "3"), request("ab", "Transfer-Encoding", "chunked")
	for _, f := range []struct {
		rest, s string
		left    string
		all     []api.Request
	}{
		{"", "", "", nil}, {"", "P", "P", nil}, {"P", "", "P", nil}, {"P", "U", "PU", nil}, {"\r\n", "\r", "\r\n\r", nil},
		{"", plain, "", []api.Request{a}}, {plain, "", "", []api.Request{a}}, {plain[:9], plain[9:], "", []api.Request{a}}, {plain[:len(plain)-1], "\n", "", []api.Request{a}}, {"P", plain[1:] + "P", "P", []api.Request{a}},
		{"", sized, "", []api.Request{b}}, {sized[:len(sized)-1], "c", "", []api.Request{b}}, {"", sized[:len(sized)-1], sized[:len(sized)-1], nil}, {"", sized + "d", "d", []api.Request{b}},
		{"", chunked, "", []api.Request{c}}, {chunked[:len(chunked)-1], "\n\n", "\n", []api.Request{c}}, {"", chunked[:len(chunked)-1], chunked[:len(chunked)-1], nil},
		{"", plain + plain, "", []api.Request{a, a}}, {plain, plain, "", []api.Request{a, a}}, {"", plain + sized + chunked + "x", "x", []api.Request{a, b, c}}, {"", chunked + plain + sized, "", []api.Request{c, a, b}}, {sized + chunked[:40], chunked[40:] + sized[:40], sized[:40], []api.Request{b, c}},
	} {
		checkFed(t, waiting(f.rest), widest, f.s, waiting(f.left), f.all, api.OK)
		checkFedPlainly(t, waiting(f.rest), widest, f.s)
	}
}

// A reader ends at the first error; what was whole ahead of it is told, what
// is behind it is never looked at.
func TestFeedOfErrors(t *testing.T) {
	for bad, want := range map[string]api.Errno{
		"\r\n\r\n": api.ErrForm, "GET\r\n\r\n": api.ErrForm, first + "Content-Length: x\r\n\r\n": api.ErrForm, chunked[:len(chunked)-12] + "x": api.ErrForm,
		first + times(31, "a: b\r\n") + "\r\n": api.ErrHead, times(4096, "x"): api.ErrHead,
		first + "Content-Length: 4097\r\n\r\n": api.ErrBody, first + "Transfer-Encoding: chunked\r\n\r\n1001\r\n": api.ErrBody,
	} {
		for n := range 4 {
			ahead, all := times(n, sized), slices.Repeat([]api.Request{request("abc", "Content-Length", "3")}, n)
			for _, behind := range []string{"", "x", plain, "\r\n\r\n"} {
				s := ahead + bad + behind
				for _, cut := range []int{0, 1, 20, len(s) / 2, len(s)} {
					cut = min(cut, len(s))
					checkFed(t, waiting(s[:cut]), widest, s[cut:], over(want), all, want)
				}
			}
			if n == 0 {
				continue
			}
			r, l, e := Feed(waiting(""), widest, ahead+bad[:len(bad)-1])
			if e != api.OK || len(l) != n {
				t.Errorf("%d, and all of %.40q but its last byte: %d, %d", n, bad, len(l), e)
			}
			checkFed(t, r, widest, bad[len(bad)-1:], over(want), nil, want)
		}
	}
}

func TestFeedOfEndedReaders(t *testing.T) {
	for _, e := range []api.Errno{api.ErrArg, api.ErrLarge, api.ErrSyntax, api.ErrForm, api.ErrHead, api.ErrBody, api.ErrMore, api.ErrOver, api.ErrName, api.ErrFull, api.ErrDeep, 12, 100, -1, math.MaxInt, math.MinInt} {
		for _, rest := range []string{"", "x", plain, "GET\r\n\r\n", times(65536, "x")} {
			for _, s := range []string{"", "x", plain, "\r\n\r\n", times(8192, "\n")} {
				r := api.Reader{Rest: rest, Over: e}
				checkFed(t, r, widest, s, r, nil, api.ErrOver)
				checkFed(t, r, bounds(29, 0), s, r, nil, api.ErrArg)
				checkFed(t, r, widest, times(8193, "x"), r, nil, api.ErrLarge)
				r.Rest = times(65537, "x")
				checkFed(t, r, widest, s, r, nil, api.ErrLarge)
				checkFed(t, r, bounds(30, -1), times(8193, "x"), r, nil, api.ErrArg)
			}
		}
	}
}

// A refused call changes nothing: the reader goes on from where it was.
func TestFeedOfLargeTexts(t *testing.T) {
	for _, rest := range []string{"", "x", plain, first, "GET\r\n\r\n", times(65536, "\x00")} {
		checkFed(t, waiting(rest), widest, times(8193, "x"), waiting(rest), nil, api.ErrLarge)
		checkFed(t, waiting(rest), widest, times(100000, plain), waiting(rest), nil, api.ErrLarge)
		checkFed(t, waiting(rest), api.Bounds{}, times(8193, "x"), waiting(rest), nil, api.ErrArg)
		checkFed(t, waiting(rest), api.Bounds{}, "x", waiting(rest), nil, api.ErrArg)
	}
	for _, n := range []int{65537, 65538, 70000, 1000000} {
		r := waiting(times(n, "\r\n")[:n])
		checkFed(t, r, widest, "", r, nil, api.ErrLarge)
		checkFed(t, r, widest, "x", r, nil, api.ErrLarge)
		checkFed(t, r, api.Bounds{}, "x", r, nil, api.ErrArg)
	}
	large := first + "Content-Length: 4096\r\n\r\n" + times(4096, "x")
	s := times(20, large)[:8192]
	r, all, e := checkFedPlainly(t, waiting(""), widest, s)
	if len(all) != 1 || r.Rest != s[len(large):] || e != api.OK {
		t.Errorf("of 8192 bytes %d requests, %d left, %d", len(all), len(r.Rest), e)
	}
}

// As many bytes wait as may, and as many come as may: all of them are taken.
func TestFeedOfMostBytes(t *testing.T) {
	s := times(5000, plain) // 18 bytes each
	rest := s[:65536]
	r, all, e := Feed(waiting(rest), widest, s[65536:65536+8192])
	taken := (65536 + 8192) / len(plain)
	if want := s[taken*len(plain) : 65536+8192]; r != waiting(want) || len(all) != taken || e != api.OK {
		t.Errorf("%d requests instead of %d, %s, %d", len(all), taken, show(r), e)
	}
	for _, q := range all {
		if !same(q, request("")) {
			t.Fatalf("%q was no such request", q)
		}
	}
	checkFed(t, waiting(times(65536, "x")), widest, times(8192, "x"), over(api.ErrHead), nil, api.ErrHead)
	// The longest way to write a body never waits for longer than may be.
	long := first + "Transfer-Encoding: chunked\r\n\r\n" + times(4096, "0000001\r\nx\r\n") + "0000000\r\n\r\n"
	next := waiting("")
	for at := 0; at < len(long)-1; at += 1000 {
		next, all, e = Feed(next, widest, long[at:min(at+1000, len(long)-1)])
		if len(all) != 0 || e != api.OK {
			t.Fatalf("after %d bytes %d requests and %d", at, len(all), e)
		}
	}
	checkFed(t, next, widest, "\n", waiting(""), []api.Request{request(times(4096, "x"), "Transfer-Encoding", "chunked")}, api.OK)
}

// fed feeds the pieces one behind the other until there is an error.
func fed(b api.Bounds, pieces []string) (api.Reader, []api.Request, api.Errno) {
	var r api.Reader
	var all []api.Request
	for _, piece := range pieces {
		next, l, e := Feed(r, b, piece)
		r, all = next, append(all, l...)
		if e != api.OK {
			return r, all, e
		}
	}
	return r, all, api.OK
}

func checkPieces(t *testing.T, b api.Bounds, pieces ...string) {
	t.Helper()
	want, wantAll, wantErr := plainFeed(api.Reader{}, b, strings.Join(pieces, ""))
	if r, all, e := fed(b, pieces); r != want || !sameAll(all, wantAll) || e != wantErr {
		t.Errorf("%.300q are %s, %s, %d; want %s, %s, %d", pieces, show(r), show(all), e, show(want), show(wantAll), wantErr)
	}
}

// However the bytes come, the same is read.
func TestFeedOfPieces(t *testing.T) {
	for _, s := range []string{
		plain + sized + chunked + plain[:10], chunked + chunked + "\r\n\r\n" + plain, sized + first + "Content-Length: 4\r\n\r\nabcd", plain + first + "Transfer-Encoding: chunked\r\n\r\n1\r\na\r\n3\r\n", plain + first + "A: " + times(60, "b") + "\r\n\r\n", sized + times(70, "x") + plain, first + "Content-Length: 3\r\nContent-Length: 2\r\n\r\nabc",
	} {
		for _, b := range []api.Bounds{widest, bounds(60, 3), bounds(47, 2), bounds(30, 0)} {
			checkPieces(t, b, strings.Split(s, "")...)
			for i := range len(s) + 1 {
				checkPieces(t, b, s[:i], s[i:])
				for j := i; j <= len(s); j += 7 {
					checkPieces(t, b, s[:i], s[i:j], s[j:])
				}
			}
		}
	}
}

func TestFeedOfMixedTexts(t *testing.T) {
	pick := picker(30)
	told := map[api.Errno]int{}
	for range 8000 {
		b := bounds([]int{40, 60, 80, 4096}[pick(4)], []int{2, 3, 6, 4096}[pick(4)])
		s := ""
		for range pick(4) {
			s += []string{plain, sized, chunked, mixed(pick)}[pick(4)]
		}
		cut := pick(len(s) + 1)
		_, _, e := checkFedPlainly(t, waiting(s[:cut]), b, s[cut:])
		told[e]++
		var pieces []string
		for s != "" {
			n := 1 + pick(min(len(s), 1+pick(60)))
			pieces, s = append(pieces, s[:n]), s[n:]
		}
		checkPieces(t, b, pieces...)
	}
	for _, e := range []api.Errno{api.OK, api.ErrForm, api.ErrHead, api.ErrBody} {
		if told[e] < 200 {
			t.Errorf("only these were told: %v", told)
		}
	}
	if told[api.ErrMore] != 0 {
		t.Error("Feed tells ErrMore")
	}
}

// What was written as requests is read as these, and the rest waits.
func TestFeedReadsWhatIsWritten(t *testing.T) {
	pick := picker(31)
	for range 1000 {
		var want []api.Request
		s := ""
		for range pick(6) {
			body := make([]byte, pick(2)*pick(60))
			for i := range body {
				body[i] = byte(pick(256))
			}
			n := fmt.Sprint(len(body))
			switch pick(3) {
			case 0:
				want, s = append(want, request("", "A", n)), s+first+"A: "+n+"\r\n\r\n"
			case 1:
				want, s = append(want, request(string(body), "Content-Length", n)), s+first+"Content-Length: "+n+"\r\n\r\n"+string(body)
			case 2:
				want, s = append(want, request(string(body), "Transfer-Encoding", "chunked")), s+first+"Transfer-Encoding: chunked\r\n\r\n"+frame.Chunked(string(body), []int{pick(9), pick(9), pick(9)})
			}
		}
		rest := chunked[:pick(len(chunked))]
		cut := pick(len(s+rest) + 1)
		checkFed(t, waiting((s + rest)[:cut]), widest, (s + rest)[cut:], waiting(rest), want, api.OK)
	}
}
