package one

import (
	"strings"

	"gatewicket/api"
)

// Feed: the reader r when s has come behind the bytes that wait, and the
// requests that are whole by that (P30).
func Feed(r api.Reader, b api.Bounds, s string) (api.Reader, []api.Request, api.Errno) {
	if e := checkFeed(r, b, s); e != api.OK {
		return reader(r.Rest, r.Over), nil, e
	}
	all, rest, e := takeAll(r.Rest+s, b)
	if e != api.ErrMore {
		return reader("", e), all, e
	}
	return reader(rest, api.OK), all, api.OK
}

func checkFeed(r api.Reader, b api.Bounds, s string) api.Errno {
	if e := Check(b); e != api.OK {
		return e
	}
	if len(r.Rest) > api.MaxWait || len(s) > api.MaxText {
		return api.ErrLarge
	}
	if r.Over != api.OK {
		return api.ErrOver
	}
	return api.OK
}

// reader has a Rest of its own: that of another reader, or a piece of a text
// that was handed in, would share its memory (P2).
func reader(rest string, over api.Errno) api.Reader {
	return api.Reader{Rest: strings.Clone(rest), Over: over}
}

// takeAll takes the requests off the front of s: they, what is left, and why
// no more were there.
func takeAll(s string, b api.Bounds) ([]api.Request, string, api.Errno) {
	var all []api.Request
	for {
		q, n, e := One(s, b)
		if e != api.OK {
			return all, s, e
		}
		all = append(all, q)
		s = s[n:]
	}
}
