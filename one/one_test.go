package one

import (
	"fmt"
	"math"
	"slices"
	"strings"
	"testing"

	"gatewicket/api"
	"gatewicket/frame"
	"gatewicket/head"
)

var widest = api.Bounds{Head: 4096, Body: 4096, Args: 40}

func bounds(head, body int) api.Bounds { return api.Bounds{Head: head, Body: body, Args: 1} }

func field(name, value string) api.Field { return api.Field{Name: name, Value: value} }

// request is one of the method PUT and the target /a, its fields told as names
// and values by turns.
func request(body string, texts ...string) api.Request {
	q := api.Request{Head: api.Head{Method: "PUT", Target: "/a"}, Body: body}
	for i := 0; i < len(texts); i += 2 {
		q.Head.Fields = append(q.Head.Fields, field(texts[i], texts[i+1]))
	}
	return q
}

func times(n int, s string) string { return strings.Repeat(s, n) }

func bytesText(c ...byte) string { return string(c) }

func picker(seed uint64) func(int) int {
	return func(below int) int {
		seed = seed*6364136223846793005 + 1442695040888963407
		return int(seed>>33) % below
	}
}

func same(a, b api.Request) bool {
	return a.Head.Method == b.Head.Method && a.Head.Target == b.Head.Target && slices.Equal(a.Head.Fields, b.Head.Fields) && a.Body == b.Body
}

// plainOne is P29 gone through byte by byte up to the head's end.
func plainOne(s string, b api.Bounds) (api.Request, int, api.Errno) {
	none := api.Request{}
	if b.Head < 30 || b.Head > 4096 || b.Body < 0 || b.Body > 4096 || b.Args < 1 || b.Args > 40 {
		return none, 0, api.ErrArg
	}
	n := 0
	for ; n < 4 || s[n-4:n] != "\r\n\r\n"; n++ {
		if n == b.Head {
			return none, 0, api.ErrHead
		}
		if n == len(s) {
			return none, 0, api.ErrMore
		}
	}
	h, e := head.Parse(s[:n])
	if e != api.OK {
		return none, 0, e
	}
	size, e := frame.Of(h)
	if e != api.OK {
		return none, 0, e
	}
	body, took := "", 0
	if size.Kind == api.BChunked {
		if body, took, e = frame.Chunks(s[n:], b.Body); e != api.OK {
			return none, 0, e
		}
	}
	for ; took < size.Size; took++ {
		if size.Size > b.Body {
			return none, 0, api.ErrBody
		}
		if n+took == len(s) {
			return none, 0, api.ErrMore
		}
		body += s[n+took : n+took+1]
	}
	return api.Request{Head: h, Body: body}, n + took, api.OK
}

func checkOne(t *testing.T, s string, b api.Bounds, want api.Request, wantSize int, wantErr api.Errno) {
	t.Helper()
	q, n, e := One(s, b)
	if !same(q, want) || n != wantSize || e != wantErr {
		t.Errorf("One(%.100q, %d) = %.100q, %d, %d; want %.100q, %d, %d", s, b, q, n, e, want, wantSize, wantErr)
	}
}

func checkRefused(t *testing.T, s string, b api.Bounds, want api.Errno) {
	t.Helper()
	checkOne(t, s, b, api.Request{}, 0, want)
}

func checkPlain(t *testing.T, s string, b api.Bounds) api.Errno {
	t.Helper()
	want, size, e := plainOne(s, b)
	checkOne(t, s, b, want, size, e)
	return e
}

// checkCheck asks Check, and whether One and Feed say the same of good bytes.
func checkCheck(t *testing.T, b api.Bounds, good bool) {
	t.Helper()
	const s = "G / HTTP/1.1\r\n\r\n"
	q, size, rest := api.Request{Head: api.Head{Method: "G", Target: "/"}}, len(s), ""
	want := api.OK
	if !good {
		q, size, rest, want = api.Request{}, 0, s, api.ErrArg
	}
	if e := Check(b); e != want {
		t.Errorf("Check(%d) = %d; want %d", b, e, want)
	}
	checkOne(t, s, b, q, size, want)
	r, l, e := Feed(api.Reader{Rest: s}, b, "")
	if r != (api.Reader{Rest: rest}) || (len(l) == 1) != good || e != want {
		t.Errorf("Feed of %d = %v, %q, %d; want %d", b, r, l, e, want)
	}
}

func TestCheck(t *testing.T) {
	for n := -100; n < 5000; n++ {
		checkCheck(t, api.Bounds{Head: n, Body: 0, Args: 1}, n >= 30 && n <= 4096)
		checkCheck(t, api.Bounds{Head: 30, Body: n, Args: 40}, n >= 0 && n <= 4096)
		checkCheck(t, api.Bounds{Head: 4096, Body: 4096, Args: n}, n >= 1 && n <= 40)
	}
	edges := []int{math.MinInt, math.MinInt + 30, -4096, -1, 0, 1, 2, 29, 30, 31, 39, 40, 41, 4095, 4096, 4097, 8192, math.MaxInt}
	for _, h := range edges {
		for _, b := range edges {
			for _, a := range edges {
				checkCheck(t, api.Bounds{Head: h, Body: b, Args: a}, h >= 30 && h <= 4096 && b >= 0 && b <= 4096 && a >= 1 && a <= 40)
			}
		}
	}
	checkCheck(t, api.Bounds{}, false)
}

const first = "PUT /a HTTP/1.1\r\n"

func TestOne(t *testing.T) {
	for s, want := range map[string]api.Request{
		first + "\r\n":                       request(""),
		first + "A: b\r\nc:\t d \r\n\r\n":    request("", "A", "b", "c", "d"),
		first + "Content: 3\r\n\r\n":         request("", "Content", "3"),
		first + "Content-Lengths: 3\r\n\r\n": request("", "Content-Lengths", "3"),
		// Bodies of a size.
		first + "Content-Length: 0\r\n\r\n":                          request("", "Content-Length", "0"),
		first + "Content-Length: 3\r\n\r\nabc":                       request("abc", "Content-Length", "3"),
		first + "content-LENGTH:003\r\nA: b\r\n\r\nabc":              request("abc", "content-LENGTH", "003", "A", "b"),
		first + "A: b\r\nContent-Length:\t3 \r\n\r\nabc":             request("abc", "A", "b", "Content-Length", "3"),
		first + "Content-Length: 3\r\ncontent-length: 3\r\n\r\nabc":  request("abc", "Content-Length", "3", "content-length", "3"),
		first + "Content-Length: 000000004\r\n\r\n\r\n\r\n":          request("\r\n\r\n", "Content-Length", "000000004"),
		first + "Content-Length: 17\r\n\r\nG / HTTP/1.1\r\n\r\n\x00": request("G / HTTP/1.1\r\n\r\n\x00", "Content-Length", "17"),
		first + "Content-Length: 5\r\n\r\n0\r\n\r\n":                 request("0\r\n\r\n", "Content-Length", "5"),
		first + "Content-Length: 4096\r\n\r\n" + times(4096, "x"):    request(times(4096, "x"), "Content-Length", "4096"),
		first + "Content-Length: 2\r\nA: chunked\r\n\r\n\xff\xc3":    request("\xff\xc3", "Content-Length", "2", "A", "chunked"),
		// Bodies of chunks.
		first + "Transfer-Encoding: chunked\r\n\r\n0\r\n\r\n":                                        request("", "Transfer-Encoding", "chunked"),
		first + "transfer-encoding:\tCHUNKED \r\n\r\n2\r\nab\r\n001\r\nc\r\n00\r\n\r\n":              request("abc", "transfer-encoding", "CHUNKED"),
		first + "A: b\r\nTransfer-Encoding: chunked\r\nC: d\r\n\r\n4\r\n\r\n\r\n\r\n0\r\n\r\n":       request("\r\n\r\n", "A", "b", "Transfer-Encoding", "chunked", "C", "d"),
		first + "Transfer-Encoding: chunked\r\n\r\n1000\r\n" + times(4096, "x") + "\r\n0\r\n\r\n":    request(times(4096, "x"), "Transfer-Encoding", "chunked"),
		first + "Transfer-Encoding: chunked\r\n\r\n" + times(4096, "0000001\r\nx\r\n") + "0\r\n\r\n": request(times(4096, "x"), "Transfer-Encoding", "chunked"),
	} {
		for _, behind := range []string{"", "x", "\r\n", "\r\n\r\n", "0\r\n\r\n", first + "\r\n", "GET\r\n\r\n", "\x00", times(10000, "y")} {
			checkOne(t, s+behind, widest, want, len(s), api.OK)
			checkPlain(t, s+behind, widest)
		}
	}
}

func TestOneRefuses(t *testing.T) {
	const sizedHead, chunkedHead = first + "Content-Length: 3\r\n\r\n", first + "Transfer-Encoding: chunked\r\n\r\n"
	long := first + "a:" + times(1000, "b") + "\r\n"
	for want, texts := range map[api.Errno][]string{
		api.ErrForm: {
			"\r\n\r\n", "\r\n" + first + "\r\n", "x\r\n\r\n", "PUT\r\n\r\n", "PUT /a HTTP/1.0\r\n\r\n", "PUT  /a HTTP/1.1\r\n\r\n", "put /a http/1.1\r\n\r\n", "P(T /a HTTP/1.1\r\n\r\n", "PUT /\xff HTTP/1.1\r\n\r\n",
			first + "a\r\n\r\n", first + "a : b\r\n\r\n", first + " a: b\r\n\r\n", first + "a: b\nc: d\r\n\r\n", first + "a: b\r\n c\r\n\r\n", first + "a: \x00\r\n\r\n", first + "a: b\n\r\n\r\n", first + "\n\n\r\n\r\n",
			first + "Content-Length:\r\n\r\n", first + "Content-Length: x\r\n\r\n", first + "Content-Length: +3\r\n\r\nabc", first + "Content-Length: -3\r\n\r\nabc", first + "Content-Length: 3,3\r\n\r\nabc", first + "Content-Length: 0x3\r\n\r\nabc", first + "Content-Length: 3 3\r\n\r\nabc", first + "Content-Length: 0000000003\r\n\r\nabc", first + "Content-Length: 1000000000\r\n\r\n",
			first + "Content-Length: 3\r\nContent-Length: 03\r\n\r\nabc", first + "Content-Length: 3\r\nContent-Length: 4\r\n\r\nabcd", first + "Content-Length: 3\r\ncontent-length: 0\r\n\r\nabc",
			first + "Content-Length: 3\r\nTransfer-Encoding: chunked\r\n\r\nabc", first + "Transfer-Encoding: chunked\r\nContent-Length: 5\r\n\r\n0\r\n\r\n", first + "Transfer-Encoding: chunked\r\ntransfer-encoding: chunked\r\n\r\n0\r\n\r\n", first + "Transfer-Encoding: identity\r\n\r\n", first + "Transfer-Encoding: gzip, chunked\r\n\r\n0\r\n\r\n", first + "Transfer-Encoding:\r\n\r\n",
			chunkedHead + "x", chunkedHead + "\r\n", chunkedHead + "0\n", chunkedHead + "0\r\nA: b\r\n\r\n", chunkedHead + "1\r\nab", chunkedHead + "1;a\r\n", chunkedHead + "00000001\r\n", chunkedHead + "2\r\nab\r\n \r\n", chunkedHead + first,
			// What is told of the size counts only when there is one reading of it.
			first + "Content-Length: 5000\r\nContent-Length: 5001\r\n\r\n", first + "Content-Length: 5000\r\nTransfer-Encoding: chunked\r\n\r\n", first + "Content-Length: 5000\r\na\r\n\r\n", long + "a\r\n\r\n",
		},
		api.ErrHead: {
			first + times(31, "a: b\r\n") + "\r\n", long + "\r\n", "PUT " + times(1001, "/") + " HTTP/1.1\r\n\r\n", long + "Content-Length: x\r\n\r\n", long + "Content-Length: 5000\r\n\r\n", long + "Transfer-Encoding: chunked\r\n\r\nx", times(4096, "x"), times(4096, "\r"), times(4096, "\n"), times(4096, "\x00"), first + times(1000, "a: b\r\n"), first + times(1000, "a: b\r\n") + "\r\n", times(4093, "\n") + "\r\n\r\n", times(100000, "PUT "),
		},
		api.ErrBody: {
			first + "Content-Length: 4097\r\n\r\n", first + "Content-Length: 4097\r\n\r\n" + times(4097, "x"), first + "Content-Length: 999999999\r\n\r\n", first + "Content-Length: 000004097\r\n\r\nabc", chunkedHead + "1001\r\n", chunkedHead + "fffffff\r\nx", chunkedHead + "1000\r\n" + times(4096, "x") + "\r\n1\r\n", chunkedHead + "1001\r\n" + times(4097, "x") + "\r\n0\r\n\r\n",
		},
		api.ErrMore: {
			"", "x", "\r\n", "\r\n\r", "\n\n", "\x00", "GET", first, first + "\r", first + "\n\r\n", first + "a\n\n", first + "a: b\r\nContent-Length: x\r\n", times(4095, "x"), times(2047, "\r\r"), times(1000, "\n\r\n"), first + times(40, "a\r\n"), first + times(40, "a\r\n") + "\r",
			sizedHead, sizedHead + "a", sizedHead + "ab", sizedHead + "\r\n", first + "Content-Length: 4096\r\n\r\n", first + "Content-Length: 4096\r\n\r\n" + times(4095, "x"), chunkedHead, chunkedHead + "1", chunkedHead + "1\r", chunkedHead + "1\r\n", chunkedHead + "1001", chunkedHead + "1001\r", chunkedHead + "3\r\nabc\r\n0\r\n", chunkedHead + "3\r\nabc\r\n0\r\n\r", chunkedHead + times(4096, "1\r\nx\r\n"),
		},
	} {
		for _, s := range texts {
			checkRefused(t, s, widest, want)
			if e := checkPlain(t, s, widest); e != want {
				t.Errorf("%.100q: the tests want %d and %d", s, want, e)
			}
			checkRefused(t, s, bounds(4096, 4097), api.ErrArg)
		}
	}
}

func TestOneOfCutTexts(t *testing.T) {
	for _, s := range []string{
		first + "\r\n", first + "A: b\r\nc:\td \r\n\r\n", first + "Content-Length: 0\r\n\r\n", first + "Content-Length: 12\r\n\r\n\r\n\r\nabcd\r\n\r\n", first + "Transfer-Encoding: chunked\r\n\r\n0\r\n\r\n", first + "Transfer-Encoding: chunked\r\nA: b\r\n\r\n2\r\nab\r\n00a\r\n\r\n0\r\n\r\nxyz\r\n0\r\n\r\n",
	} {
		for n := range len(s) {
			checkRefused(t, s[:n], widest, api.ErrMore)
		}
		want, size, e := plainOne(s, widest)
		if size != len(s) || e != api.OK {
			t.Fatalf("%q is no good text", s)
		}
		for c := range 256 {
			checkOne(t, s+bytesText(byte(c)), widest, want, len(s), api.OK)
		}
	}
}

func TestOneOfEachByte(t *testing.T) {
	for c := range 256 {
		for _, body := range []string{bytesText(byte(c)), bytesText('a', byte(c)), bytesText(byte(c), 'b'), bytesText('a', byte(c), 'b')} {
			n := fmt.Sprint(len(body))
			s := first + "Content-Length: " + n + "\r\n\r\n" + body
			checkOne(t, s+"c", widest, request(body, "Content-Length", n), len(s), api.OK)
			s = first + "Transfer-Encoding: chunked\r\n\r\n" + n + "\r\n" + body + "\r\n0\r\n\r\n"
			checkOne(t, s+"c", widest, request(body, "Transfer-Encoding", "chunked"), len(s), api.OK)
		}
	}
}

// headOf is a good head of so many bytes, at least 18.
func headOf(n int) (string, api.Request) {
	const ahead, behind = "PUT /", " HTTP/1.1\r\n"
	left := n - len(ahead+behind+"\r\n")
	target := times(lineOf(left), "a")
	left -= len(target)
	var fields []api.Field
	s := ahead + target + behind
	for left > 0 {
		value := times(lineOf(left)-len("b: \r\n"), "c")
		fields = append(fields, field("b", value))
		s += "b: " + value + "\r\n"
		left -= lineOf(left)
	}
	return s + "\r\n", api.Request{Head: api.Head{Method: "PUT", Target: "/" + target, Fields: fields}}
}

// lineOf is how many of so many bytes a line may take, so that those that are
// left are enough for another one.
func lineOf(left int) int {
	if left > 900 {
		return 800
	}
	return left
}

// A head may have as many bytes as the bound tells. One that has more is
// refused as soon as so many bytes are there, and no sooner.
func TestOneOfHeadBounds(t *testing.T) {
	for most := 30; most <= 4096; most++ {
		s, want := headOf(most)
		if len(s) != most {
			t.Fatalf("%d bytes instead of %d", len(s), most)
		}
		b := bounds(most, 0)
		checkOne(t, s, b, want, most, api.OK)
		checkOne(t, s+"x", b, want, most, api.OK)
		for cut := 1; cut <= 5; cut++ {
			checkRefused(t, s[:most-cut], b, api.ErrMore)
			checkRefused(t, s[:most-cut]+times(cut, "x"), b, api.ErrHead)
			checkRefused(t, s[:most-4]+times(cut, "x")+s[most-4:], b, api.ErrHead)
			if least := most - cut; least >= 30 {
				checkRefused(t, s[:least-1], bounds(least, 0), api.ErrMore)
				checkRefused(t, s[:least], bounds(least, 0), api.ErrHead)
				checkRefused(t, s, bounds(least, 0), api.ErrHead)
				checkRefused(t, s+"x", bounds(least, 0), api.ErrHead)
			}
		}
	}
}

// The bound of the head doesn't bound what is behind it, and is looked at
// ahead of all that the head tells.
func TestOneOfHeadBoundsAndBodies(t *testing.T) {
	const s = "PUT /a HTTP/1.1\r\nContent-Length: 9\r\n\r\n" // 38 bytes
	want := request("012345678", "Content-Length", "9")
	checkOne(t, s+"012345678", bounds(38, 9), want, 47, api.OK)
	checkRefused(t, s+"012345678", bounds(37, 9), api.ErrHead)
	checkRefused(t, s+"012345678", bounds(37, 8), api.ErrHead)
	checkRefused(t, s+"012345678", bounds(38, 8), api.ErrBody)
	checkRefused(t, s+"01234567", bounds(38, 9), api.ErrMore)
	checkRefused(t, times(30, "\x00"), bounds(30, 0), api.ErrHead)
	checkRefused(t, times(29, "\x00"), bounds(30, 0), api.ErrMore)
	checkRefused(t, "\r\n\r\n"+times(30, "x"), bounds(30, 0), api.ErrForm)
	checkRefused(t, times(26, "x")+"\r\n\r\n", bounds(30, 0), api.ErrForm)
	checkRefused(t, times(27, "x")+"\r\n\r\n", bounds(30, 0), api.ErrHead)
	checkRefused(t, times(26, "x")+"\r\n\r", bounds(30, 0), api.ErrMore)
	checkRefused(t, times(27, "x")+"\r\n\r", bounds(30, 0), api.ErrHead)
}

func TestOneOfBodyBounds(t *testing.T) {
	for most := 0; most <= 4096; most++ {
		if most > 300 && most < 4000 && most%97 != 0 {
			continue
		}
		b, body := bounds(100, most), times(most, "x")
		n := fmt.Sprint(most)
		s := first + "Content-Length: " + n + "\r\n\r\n" + body
		checkOne(t, s, b, request(body, "Content-Length", n), len(s), api.OK)
		for _, more := range []int{most + 1, most + 2, 4097, 999999999} {
			s = fmt.Sprintf("%sContent-Length: %d\r\n\r\n", first, more)
			checkRefused(t, s, b, api.ErrBody)
			checkRefused(t, s+body, b, api.ErrBody)
			checkRefused(t, s+times(most+2, "x")+first, b, api.ErrBody)
		}
		s = fmt.Sprintf("%sTransfer-Encoding: chunked\r\n\r\n%s", first, frame.Chunked(body, []int{most / 2}))
		checkOne(t, s, b, request(body, "Transfer-Encoding", "chunked"), len(s), api.OK)
		if most > 0 {
			checkRefused(t, s, bounds(100, most-1), api.ErrBody)
		}
		s = fmt.Sprintf("%sTransfer-Encoding: chunked\r\n\r\n%x\r\n", first, most+1)
		checkRefused(t, s[:len(s)-1], b, api.ErrMore)
		checkRefused(t, s, b, api.ErrBody)
	}
}

func changed(s string) []string {
	var all []string
	for at := range len(s) + 1 {
		all = append(all, s[:at], s[at:])
		for c := range 256 {
			all = append(all, s[:at]+bytesText(byte(c))+s[at:])
			if at < len(s) {
				all = append(all, s[:at]+bytesText(byte(c))+s[at+1:])
			}
		}
		if at < len(s) {
			all = append(all, s[:at]+s[at+1:])
		}
	}
	return all
}

func TestOneOfChangedTexts(t *testing.T) {
	told := map[api.Errno]int{}
	for _, good := range []string{"P / HTTP/1.1\r\nA: b\r\n\r\nrest", "P / HTTP/1.1\r\nContent-Length: 3\r\n\r\nabcrest", "P / HTTP/1.1\r\nTransfer-Encoding: chunked\r\n\r\n2\r\nab\r\n0\r\n\r\nrest"} {
		for _, s := range changed(good) {
			told[checkPlain(t, s, bounds(48, 3))]++
		}
	}
	for _, e := range []api.Errno{api.OK, api.ErrForm, api.ErrHead, api.ErrBody, api.ErrMore} {
		if told[e] < 9 {
			t.Errorf("only these were told: %v", told)
		}
	}
}

// mixed is a text of pieces that matter, good ones more often than others.
func mixed(pick func(int) int) string {
	ends := []string{"\r\n", "\r\n", "\r\n", "\r\n", "\r\n", "\r\n", "\r\n", "\n", "", "\r"}
	lines := []string{"Content-Length: 3", "Transfer-Encoding: chunked", "content-length:3", "Content-Length: 7", "Content-Length: x", "TE: x", "A:" + times(40, "b"), "a b", "c : d", "e:"}
	bodies := []string{"", "abc", "2\r\nab\r\n0\r\n\r\n", "0\r\n\r\n", "3\r\nabc\r\n1\r\n", "ab", "7\r\n", "1\r\nabc", "abcdefg", "\r\n\r\n"}
	s := []string{"GET / HTTP/1.1", "PUT /abc HTTP/1.1", "GET / HTTP/1.1", "GET / HTTP/1.0", "\r\nGET / HTTP/1.1", ""}[pick(6)] + "\r\n"
	for range pick(4) {
		s += lines[pick(1+pick(len(lines)))] + ends[pick(len(ends))]
	}
	s += "\r\n" + bodies[pick(len(bodies))]
	return s[:len(s)-pick(1+pick(len(s)))]
}

func TestOneOfMixedTexts(t *testing.T) {
	pick := picker(29)
	told := map[api.Errno]int{}
	for range 60000 {
		b := bounds([]int{30, 40, 50, 60, 80, 4096}[pick(6)], []int{0, 2, 3, 6, 4096}[pick(5)])
		told[checkPlain(t, mixed(pick), b)]++
	}
	for _, e := range []api.Errno{api.OK, api.ErrForm, api.ErrHead, api.ErrBody, api.ErrMore} {
		if told[e] < 500 {
			t.Errorf("only these were told: %v", told)
		}
	}
}

func TestPlainOneReads(t *testing.T) {
	q, n, e := plainOne(first+"Content-Length: 3\r\n\r\nabcd", widest)
	if !same(q, request("abc", "Content-Length", "3")) || n != 41 || e != api.OK {
		t.Error(q, n, e)
	}
	for s, want := range map[string]api.Errno{first: api.ErrMore, times(40, "x"): api.ErrHead, "GET\r\n\r\n": api.ErrForm, "P / HTTP/1.1\r\nContent-Length:9\r\n\r\n": api.ErrBody} {
		if _, _, e := plainOne(s, bounds(40, 8)); e != want {
			t.Error(s, e)
		}
	}
}
