package serial

import (
	"fmt"
	"slices"
	"strings"
	"testing"

	"gatewicket/api"
	"gatewicket/frame"
	"gatewicket/head"
	"gatewicket/one"
)

// asked is a request of the body and the head with these fields.
func asked(body string, texts ...string) api.Request {
	return api.Request{Head: with(texts...), Body: body}
}

// plainForward is P32 as it is told, with P31's second reading.
func plainForward(q api.Request) (string, api.Errno) {
	if e := head.Check(q.Head); e != api.OK {
		return "", e
	}
	body, e := frame.Of(q.Head)
	if e != api.OK {
		return "", e
	}
	if body.Kind == api.BNone && len(q.Body) > 0 {
		return "", api.ErrForm
	}
	if len(q.Body) > 4096 {
		return "", api.ErrBody
	}
	text := fmt.Sprintf("%s %s HTTP/1.1\r\n", q.Head.Method, q.Head.Target)
	for _, f := range plainStrip(q.Head).Fields {
		text += fmt.Sprintf("%s: %s\r\n", f.Name, f.Value)
	}
	if body.Kind != api.BNone {
		text += fmt.Sprintf("Content-Length: %d\r\n", len(q.Body))
	}
	return text + "\r\n" + q.Body, api.OK
}

func checkForward(t *testing.T, q api.Request, want string, wantErr api.Errno) {
	t.Helper()
	if s, e := Forward(q); s != want || e != wantErr {
		t.Errorf("Forward(%s) = %.100q, %d; want %.100q, %d", show(q), s, e, want, wantErr)
	}
	if s, e := plainForward(q); s != want || e != wantErr {
		t.Errorf("the tests want of %s %.100q, %d and %.100q, %d", show(q), want, wantErr, s, e)
	}
	if wantErr == api.OK {
		checkOneReading(t, q, want)
	}
}

// checkOneReading asks that the bytes that go on are one request, of the same
// body, in which nothing is left that is for one connection alone.
func checkOneReading(t *testing.T, q api.Request, s string) {
	t.Helper()
	if strings.Index(s, "\r\n\r\n")+4 > 4096 {
		return // greater than a head that is taken in
	}
	read, n, e := one.One(s, api.Bounds{Head: 4096, Body: 4096, Args: 1})
	if e != api.OK || n != len(s) || read.Body != q.Body || read.Head.Method != q.Head.Method || read.Head.Target != q.Head.Target {
		t.Errorf("%.100q is read as %s, %d, %d", s, show(read), n, e)
	}
	for _, name := range hopNames[:7] {
		if len(head.Get(read.Head, name)) > 0 {
			t.Errorf("%.100q: %s has gone on", s, name)
		}
	}
	if again, e := Forward(read); again != s || e != api.OK {
		t.Errorf("%.100q goes on as %.100q, %d", s, again, e)
	}
}

const first = "PUT /a HTTP/1.1\r\n"

func TestForward(t *testing.T) {
	for _, c := range []struct {
		q    api.Request
		want string
	}{
		{asked(""), first + "\r\n"},
		{asked("", "Host", "a.b", "A", "1"), first + "Host: a.b\r\nA: 1\r\n\r\n"},
		{asked("", "Connection", "x", "x", "1"), first + "\r\n"},
		{asked("", "A", "", "TE", "x", "b", "c\td"), first + "A: \r\nb: c\td\r\n\r\n"},
		{asked("abc", "Content-Length", "3"), first + "Content-Length: 3\r\n\r\nabc"},
		{asked("abc", "content-length", "003", "A", "1"), first + "A: 1\r\nContent-Length: 3\r\n\r\nabc"},
		{asked("abc", "Content-Length", "3", "A", "1", "CONTENT-LENGTH", "3", "B", "2"), first + "A: 1\r\nB: 2\r\nContent-Length: 3\r\n\r\nabc"},
		{asked("", "Content-Length", "0"), first + "Content-Length: 0\r\n\r\n"},
		{asked("abc", "Transfer-Encoding", "chunked"), first + "Content-Length: 3\r\n\r\nabc"},
		{asked("", "transfer-encoding", "CHUNKED", "A", "1"), first + "A: 1\r\nContent-Length: 0\r\n\r\n"},
		{asked("0\r\n\r\n", "Transfer-Encoding", "chunked"), first + "Content-Length: 5\r\n\r\n0\r\n\r\n"},
		{asked("\x00\xff\r\n\r\nGET / HTTP/1.1\r\n\r\n", "Transfer-Encoding", "chunked"), first + "Content-Length: 24\r\n\r\n\x00\xff\r\n\r\nGET / HTTP/1.1\r\n\r\n"},
		{asked("abc", "Connection", "close, X", "x", "1", "Y", "2", "Transfer-Encoding", "chunked"), first + "Y: 2\r\nContent-Length: 3\r\n\r\nabc"},
		// The size that goes on is that of the bytes that are there.
		{asked("abc", "Content-Length", "4"), first + "Content-Length: 3\r\n\r\nabc"},
		{asked("", "Content-Length", "999999999"), first + "Content-Length: 0\r\n\r\n"},
		{asked("abc", "Content-Length", "0"), first + "Content-Length: 3\r\n\r\nabc"},
		// A connection field can't take the size away.
		{asked("abc", "Connection", "Content-Length", "Content-Length", "3"), first + "Content-Length: 3\r\n\r\nabc"},
		{asked("abc", "Connection", "transfer-encoding, content-length", "Transfer-Encoding", "chunked"), first + "Content-Length: 3\r\n\r\nabc"},
		{asked("", "Connection", "Content-Length"), first + "\r\n"},
		{asked("", "Connection", "host", "Host", "a"), first + "\r\n"},
		{asked("abc", "Connection", ",a;b,\"c\", /", "Content-Length", "3", "a", "1"), first + "a: 1\r\nContent-Length: 3\r\n\r\nabc"},
	} {
		checkForward(t, c.q, c.want, api.OK)
	}
	q := api.Request{Head: api.Head{Method: "M-SEARCH", Target: "*"}}
	checkForward(t, q, "M-SEARCH * HTTP/1.1\r\n\r\n", api.OK)
}

func TestForwardRefuses(t *testing.T) {
	long, many := times(1001, "b"), make([]string, 62)
	for i := range many {
		many[i] = "c"
	}
	for _, c := range []struct {
		q    api.Request
		want api.Errno
	}{
		{api.Request{}, api.ErrForm},
		{api.Request{Head: api.Head{Method: "G T", Target: "/"}}, api.ErrForm},
		{api.Request{Head: api.Head{Method: "GET", Target: "/ HTTP/1.1\r\nA: b"}}, api.ErrForm},
		{api.Request{Head: api.Head{Method: "GET", Target: times(1001, "/")}}, api.ErrHead},
		{asked("", many...), api.ErrHead},
		{asked("", "A", "b\r\nC: d"), api.ErrForm}, {asked("", "A b", "c"), api.ErrForm}, {asked("", "A", " b"), api.ErrForm}, {asked("", "", "b"), api.ErrForm}, {asked("", "A", long), api.ErrHead},
		// Also what would not go on must be in order.
		{asked("", "Connection", " x"), api.ErrForm}, {asked("", "TE", "a\x00"), api.ErrForm}, {asked("", "Upgrade", long), api.ErrHead}, {asked("", "Connection", "x y", "x y", "1"), api.ErrForm}, {asked("", "Connection", "x", "x", "1\n"), api.ErrForm}, {asked("", "Connection", "", "", "1"), api.ErrForm},
		{asked("abc", "Content-Length", "x"), api.ErrForm}, {asked("abc", "Content-Length", ""), api.ErrForm}, {asked("abc", "Content-Length", "+3"), api.ErrForm}, {asked("abc", "Content-Length", "3", "content-length", "03"), api.ErrForm}, {asked("abc", "Content-Length", "3", "content-length", "4"), api.ErrForm}, {asked("abc", "Content-Length", "3", "Transfer-Encoding", "chunked"), api.ErrForm}, {asked("abc", "Transfer-Encoding", "identity"), api.ErrForm}, {asked("abc", "Transfer-Encoding", "gzip, chunked"), api.ErrForm}, {asked("abc", "Transfer-Encoding", "chunked", "transfer-encoding", "chunked"), api.ErrForm},
		{asked("", "Connection", "content-length", "Content-Length", "x"), api.ErrForm}, {asked("", "Connection", "transfer-encoding", "Transfer-Encoding", "x"), api.ErrForm},
		{asked("a"), api.ErrForm}, {asked("\r\n"), api.ErrForm}, {asked("\x00"), api.ErrForm}, {asked("abc", "A", "1", "Content-Lengths", "3"), api.ErrForm}, {asked("abc", "Connection", "content-length"), api.ErrForm}, {asked(times(4096, "x")), api.ErrForm},
		{asked(times(4097, "x"), "Content-Length", "4097"), api.ErrBody}, {asked(times(4097, "x"), "Content-Length", "3"), api.ErrBody}, {asked(times(4097, "x"), "Transfer-Encoding", "chunked"), api.ErrBody}, {asked(times(100000, "x"), "Content-Length", "100000"), api.ErrBody},
		// What is wrong with the head comes first, then what it tells of the body, then that there is one, then its size.
		{api.Request{Head: api.Head{Method: "GET", Target: times(1001, "/")}, Body: "a"}, api.ErrHead}, {asked(times(4097, "x"), many...), api.ErrHead}, {asked(times(4097, "x"), "A", " "), api.ErrForm}, {asked(times(4097, "x"), "Content-Length", "x"), api.ErrForm}, {asked(times(4097, "x"), "A", long, "Content-Length", "x"), api.ErrHead}, {asked(times(4097, "x"), "Content-Length", "x", "A", long), api.ErrHead}, {asked(times(4097, "x")), api.ErrForm}, {asked("a", "A", long), api.ErrHead},
	} {
		checkForward(t, c.q, "", c.want)
	}
}

// A body may have up to 4096 bytes, whatever the head tells.
func TestForwardOfBodySizes(t *testing.T) {
	for n := range 4200 {
		body, told := times(n, "x"), fmt.Sprint(n)
		want, wantErr := first+"A: 1\r\nContent-Length: "+told+"\r\n\r\n"+body, api.OK
		if n > 4096 {
			want, wantErr = "", api.ErrBody
		}
		checkForward(t, asked(body, "Content-Length", told, "A", "1"), want, wantErr)
		checkForward(t, asked(body, "A", "1", "Transfer-Encoding", "chunked"), want, wantErr)
		if n > 0 {
			checkForward(t, asked(body, "A", "1"), "", api.ErrForm)
		}
	}
}

func TestForwardOfEachByte(t *testing.T) {
	for i := range 256 {
		c := bytesText(byte(i))
		for _, body := range []string{c, "a" + c, c + "a", c + c} {
			n := fmt.Sprint(len(body))
			checkForward(t, asked(body, "Content-Length", n), first+"Content-Length: "+n+"\r\n\r\n"+body, api.OK)
			checkForward(t, asked(body, "Transfer-Encoding", "chunked"), first+"Content-Length: "+n+"\r\n\r\n"+body, api.OK)
			checkForward(t, asked(body), "", api.ErrForm)
		}
		value := "a" + c + "a"
		if e := head.Check(with("B", value)); e == api.OK {
			checkForward(t, asked("", "B", value), first+"B: "+value+"\r\n\r\n", api.OK)
			checkForward(t, asked("", "Connection", value), first+"\r\n", api.OK)
		} else {
			checkForward(t, asked("", "B", value), "", e)
			checkForward(t, asked("", "Connection", value), "", e)
		}
	}
}

// The field that is added takes the place of one that goes, so that a head of
// as many fields as there may be goes on.
func TestForwardOfManyFields(t *testing.T) {
	for n := range 32 {
		for at := 0; at < n; at++ {
			for _, size := range []api.Field{field("Content-Length", "1"), field("Transfer-Encoding", "chunked"), field("B", "2")} {
				q, want, body := asked("x"), first, "Content-Length: 1\r\n\r\nx"
				if size.Name == "B" {
					q.Body, body = "", "\r\n"
				}
				for i := range n {
					f := field("A", fmt.Sprint(i))
					if i == at {
						f = size
					}
					q.Head.Fields = append(q.Head.Fields, f)
					if i != at || size.Name == "B" {
						want += f.Name + ": " + f.Value + "\r\n"
					}
				}
				if n > 30 {
					checkForward(t, q, "", api.ErrHead)
				} else {
					checkForward(t, q, want+body, api.OK)
				}
			}
		}
	}
}

// A head may be greater than one that is taken in; its lines may not.
func TestForwardOfLongLines(t *testing.T) {
	var texts []string
	for range 29 {
		texts = append(texts, "A", times(999, "b"))
	}
	texts = append(texts, "Content-Length", "1")
	want := first + times(29, "A: "+times(999, "b")+"\r\n") + "Content-Length: 1\r\n\r\nx"
	checkForward(t, asked("x", texts...), want, api.OK)
	texts[57] += "b"
	checkForward(t, asked("x", texts...), "", api.ErrHead)
}

// mixedRequest is of a mixed head, and more often than not one with a single
// field that tells the size of a body.
func mixedRequest(pick func(int) int) api.Request {
	q := api.Request{Head: mixedHead(pick), Body: []string{"", "abc", "0\r\n\r\n", times(4096, "x"), times(4097, "x")}[pick(5)]}
	q.Head.Method = []string{"PUT", "GET", "P T", times(20, "M"), times(21, "M")}[pick(1+pick(5))]
	q.Head.Target = []string{"/", "/a?b", times(1001, "/"), ""}[pick(1+pick(4))]
	if pick(4) == 0 {
		return q
	}
	q.Head.Fields = slices.DeleteFunc(q.Head.Fields, func(f api.Field) bool {
		return f.Name == "" || f.Name == "Content-Length" || f.Name == "Transfer-Encoding" || strings.Trim(f.Value, "\t ") != f.Value
	})
	size := []api.Field{field("Content-Length", "3"), field("TRANSFER-ENCODING", "Chunked")}[pick(2)]
	q.Head.Fields = slices.Insert(q.Head.Fields, pick(len(q.Head.Fields)+1), size)
	return q
}

func TestForwardOfMixedRequests(t *testing.T) {
	pick := picker(32)
	told := map[api.Errno]int{}
	sized := 0
	for range 100000 {
		q := mixedRequest(pick)
		want, e := plainForward(q)
		checkForward(t, q, want, e)
		told[e]++
		if e == api.OK && q.Body != "" {
			sized++
		}
	}
	for _, e := range []api.Errno{api.OK, api.ErrForm, api.ErrHead, api.ErrBody} {
		if told[e] < 1000 || sized < 1000 {
			t.Errorf("only these were told: %v, %d", told, sized)
		}
	}
}

// Requests that were read from bytes go on as the same request.
func TestForwardOfWhatIsRead(t *testing.T) {
	for _, c := range []struct{ s, want string }{
		{"GET /a?b HTTP/1.1\r\nHost: c\r\n\r\n", "GET /a?b HTTP/1.1\r\nHost: c\r\n\r\n"},
		{first + "A:\t1 \r\nContent-Length:03\r\nConnection:close\r\n\r\nabc", first + "A: 1\r\nContent-Length: 3\r\n\r\nabc"},
		{first + "Transfer-Encoding: chunked\r\nA:1\r\n\r\n2\r\nab\r\n01\r\nc\r\n0\r\n\r\n", first + "A: 1\r\nContent-Length: 3\r\n\r\nabc"},
	} {
		q, _, e := one.One(c.s, api.Bounds{Head: 4096, Body: 4096, Args: 1})
		if e != api.OK {
			t.Fatal(c.s, e)
		}
		checkForward(t, q, c.want, api.OK)
	}
}

func TestPlainForwardReads(t *testing.T) {
	if s, e := plainForward(asked("abc", "Connection", "X", "x", "1", "Y", "2", "Content-Length", "3")); s != first+"Y: 2\r\nContent-Length: 3\r\n\r\nabc" || e != api.OK {
		t.Error(s, e)
	}
	if s, e := plainForward(asked("abc")); s != "" || e != api.ErrForm {
		t.Error(s, e)
	}
}
