package frame

import (
	"fmt"
	"regexp"
	"slices"
	"strconv"
	"strings"
	"testing"

	"gatewicket/api"
)

func field(name, value string) api.Field { return api.Field{Name: name, Value: value} }

// with is a good head with these fields, told as names and values by turns.
func with(texts ...string) api.Head {
	h := api.Head{Method: "GET", Target: "/"}
	for i := 0; i < len(texts); i += 2 {
		h.Fields = append(h.Fields, field(texts[i], texts[i+1]))
	}
	return h
}

func times(n int, s string) string { return strings.Repeat(s, n) }

func bytesText(c ...byte) string { return string(c) }

func length(n int) api.Body { return api.Body{Kind: api.BLength, Size: n} }

func picker(seed uint64) func(int) int {
	return func(below int) int {
		seed = seed*6364136223846793005 + 1442695040888963407
		return int(seed>>33) % below
	}
}

func checkOf(t *testing.T, h api.Head, want api.Body, wantErr api.Errno) {
	t.Helper()
	if b, e := Of(h); b != want || e != wantErr {
		t.Errorf("Of(%.100q) = %d, %d; want %d, %d", h, b, e, want, wantErr)
	}
}

func checkRefused(t *testing.T, texts ...string) {
	t.Helper()
	checkOf(t, with(texts...), api.Body{}, api.ErrForm)
}

var (
	plainLength = regexp.MustCompile(`\A[Cc][Oo][Nn][Tt][Ee][Nn][Tt]-[Ll][Ee][Nn][Gg][Tt][Hh]\z`)
	plainCoding = regexp.MustCompile(`\A[Tt][Rr][Aa][Nn][Ss][Ff][Ee][Rr]-[Ee][Nn][Cc][Oo][Dd][Ii][Nn][Gg]\z`)
	plainNumber = regexp.MustCompile(`\A[0-9]{1,9}\z`)
	plainWord   = regexp.MustCompile(`\A[Cc][Hh][Uu][Nn][Kk][Ee][Dd]\z`)
)

// plainOf is P26 as it is told, with the library's expressions.
func plainOf(h api.Head) (api.Body, api.Errno) {
	var lengths, codings []string
	for _, f := range h.Fields {
		if plainLength.MatchString(f.Name) {
			lengths = append(lengths, f.Value)
		}
		if plainCoding.MatchString(f.Name) {
			codings = append(codings, f.Value)
		}
	}
	if len(lengths)+len(codings) == 0 {
		return api.Body{Kind: api.BNone}, api.OK
	}
	if len(codings) == 0 && len(slices.Compact(lengths)) == 1 && plainNumber.MatchString(lengths[0]) {
		n, _ := strconv.Atoi(lengths[0])
		return length(n), api.OK
	}
	if len(lengths) == 0 && len(codings) == 1 && plainWord.MatchString(codings[0]) {
		return api.Body{Kind: api.BChunked}, api.OK
	}
	return api.Body{}, api.ErrForm
}

func TestOfNone(t *testing.T) {
	for _, h := range []api.Head{
		{}, with(), with("a", "b"), with("Content-Type", "7"), with("Content-Lengt", "7"), with("Content-Lengths", "7"), with("Content_Length", "7"), with("Content Length", "7"), with(" Content-Length", "7"), with("Content-Length ", "7"), with("Content-Length:", "7"), with("ContentLength", "7"), with("Content-Length\x00", "7"),
		with("Transfer", "chunked"), with("Transfer-Encodin", "chunked"), with("Transfer-Encodings", "chunked"), with("TransferEncoding", "chunked"), with("Transfer_Encoding", "chunked"), with("Transfer-Encoding ", "chunked"), with("TE", "chunked"), with("", "7"), with("a", "Content-Length"), with("7", "Content-Length"), with("chunked", "Transfer-Encoding"),
		with("a", "Content-Length: 7"), with("a", "b\r\nContent-Length: 7"), with("Content-Length: 7", ""), with("Content-Encoding", "chunked"), with("Tran\xc5\xbffer-Encoding", "chunked"),
	} {
		checkOf(t, h, api.Body{Kind: api.BNone}, api.OK)
	}
}

func TestOfLength(t *testing.T) {
	for value, size := range map[string]int{
		"0": 0, "7": 7, "07": 7, "10": 10, "4096": 4096, "4097": 4097, "000000000": 0, "000000001": 1, "999999999": 999999999, "123456789": 123456789,
	} {
		for _, name := range []string{"Content-Length", "content-length", "CONTENT-LENGTH", "cONTENT-lENGTH"} {
			checkOf(t, with(name, value), length(size), api.OK)
			checkOf(t, with("a", "b", name, value, "c", "d"), length(size), api.OK)
			checkOf(t, with(name, value, "Content-Length", value), length(size), api.OK)
			checkOf(t, with("content-length", value, "a", "8", name, value, "Content-length", value), length(size), api.OK)
		}
	}
}

func TestOfLengthRefuses(t *testing.T) {
	for _, value := range []string{
		"", " ", "a", "+7", "-7", "-0", " 7", "7 ", "\t7", "7\t", "7\r\n", "7\n", "7,7", "7, 7", "7;", "7.0", "7e1", "0x7", "0X7", "f", "7f", "1_0", "1 0", "7\x00", "\x007", "\xb2", "\xd9\xa7", "\xef\xbc\x97", "chunked",
		"0000000000", "0000000007", "1000000000", "4294967303", "18446744073709551623", times(100, "7"), times(100, "0"),
	} {
		checkRefused(t, "Content-Length", value)
		checkRefused(t, "content-length", value, "Content-Length", value)
		checkRefused(t, "Content-Length", "7", "Content-Length", value)
		checkRefused(t, "Content-Length", value, "Content-Length", "7")
		checkRefused(t, "Content-Length", "7", "Content-Length", "7", "Content-Length", value)
	}
}

// The same number isn't enough: the same text is asked for.
func TestOfLengthsThatDiffer(t *testing.T) {
	texts := []string{"7", "07", "007", "8", "0", "00", "70", "77"}
	for i, first := range texts {
		for k, second := range texts {
			if i == k {
				continue
			}
			checkRefused(t, "Content-Length", first, "Content-Length", second)
			checkRefused(t, "content-length", first, "Content-Length", first, "CONTENT-LENGTH", second)
			checkRefused(t, "Content-Length", first, "Content-Length", second, "Content-Length", first)
			checkRefused(t, "Content-Length", second, "a", first, "content-length", first, "Content-Length", first)
		}
	}
}

func TestOfChunked(t *testing.T) {
	for _, value := range []string{"chunked", "Chunked", "CHUNKED", "cHUNKEd"} {
		for _, name := range []string{"Transfer-Encoding", "transfer-encoding", "TRANSFER-ENCODING", "tRANSFER-eNCODING"} {
			checkOf(t, with(name, value), api.Body{Kind: api.BChunked}, api.OK)
			checkOf(t, with("a", "b", name, value, "TE", "gzip"), api.Body{Kind: api.BChunked}, api.OK)
		}
	}
}

func TestOfChunkedRefuses(t *testing.T) {
	for _, value := range []string{
		"", " ", "gzip", "identity", "chunke", "chunkedd", "xchunked", "chunked ", " chunked", "\tchunked", "chunked\t", "chunked,", ",chunked", "gzip, chunked", "chunked, gzip", "chunked, chunked", "chunked;q=1", "\"chunked\"", "chunked\x00", "\x0bchunked", "chunked\r\n", "chun\xe2\x84\xaaed", "7", "0",
	} {
		checkRefused(t, "Transfer-Encoding", value)
		checkRefused(t, "transfer-encoding", "chunked", "Transfer-Encoding", value)
		checkRefused(t, "transfer-encoding", value, "Transfer-Encoding", "chunked")
	}
	checkRefused(t, "Transfer-Encoding", "chunked", "Transfer-Encoding", "chunked")
	checkRefused(t, "Transfer-Encoding", "chunked", "a", "b", "transfer-encoding", "CHUNKED", "a", "b")
	checkRefused(t, "Transfer-Encoding", "chunked", "Transfer-Encoding", "chunked", "Transfer-Encoding", "chunked")
}

func TestOfBoth(t *testing.T) {
	for _, l := range []string{"0", "7", "x", ""} {
		for _, c := range []string{"chunked", "gzip", ""} {
			checkRefused(t, "Content-Length", l, "Transfer-Encoding", c)
			checkRefused(t, "transfer-encoding", c, "content-length", l)
			checkRefused(t, "content-length", l, "a", "b", "Content-Length", l, "TRANSFER-ENCODING", c)
			checkRefused(t, "a", "b", "TRANSFER-ENCODING", c, "Transfer-Encoding", c, "CONTENT-LENGTH", l)
		}
	}
}

// Each byte is put at each place of a good name and value, and in each one's
// stead.
func TestOfChangedFields(t *testing.T) {
	told := map[string]int{}
	check := func(h api.Head) {
		want, wantErr := plainOf(h)
		told[fmt.Sprint(want.Kind, wantErr)]++
		checkOf(t, h, want, wantErr)
	}
	for _, f := range []api.Field{field("Content-Length", "12"), field("Transfer-Encoding", "Chunked")} {
		for _, name := range changed(f.Name) {
			check(with(name, f.Value))
			check(with(f.Name, f.Value, name, f.Value))
		}
		for _, value := range changed(f.Value) {
			check(with(f.Name, value))
			check(with(f.Name, f.Value, f.Name, value))
		}
	}
	for _, kind := range []string{"1 0", "2 0", "3 0", "0 4"} {
		if told[kind] < 10 {
			t.Errorf("only these were told: %v", told)
		}
	}
}

func changed(s string) []string {
	var all []string
	for at := range len(s) + 1 {
		all = append(all, s[:at], s[at:])
		for c := range 256 {
			all = append(all, s[:at]+bytesText(byte(c))+s[at:])
			if at < len(s) {
				all = append(all, s[:at]+bytesText(byte(c))+s[at+1:])
			}
		}
		if at < len(s) {
			all = append(all, s[:at]+s[at+1:])
		}
	}
	return all
}

// A head that head.Check refuses is read, too, and as many fields as there are.
func TestOfAnyHead(t *testing.T) {
	checkOf(t, api.Head{Method: "no method", Target: "\x00", Fields: []api.Field{field("a b", "\n"), field("content-length", "5")}}, length(5), api.OK)
	checkOf(t, api.Head{Fields: []api.Field{field("", ""), field("transfer-encoding", "chunked")}}, api.Body{Kind: api.BChunked}, api.OK)
	many := slices.Repeat([]api.Field{field("Content-Length", "5")}, 1000)
	checkOf(t, api.Head{Fields: many}, length(5), api.OK)
	for _, at := range []int{0, 500, 999} {
		for _, f := range []api.Field{field("Content-Length", "05"), field("Transfer-Encoding", "chunked")} {
			other := slices.Clone(many)
			other[at] = f
			checkOf(t, api.Head{Fields: other}, api.Body{}, api.ErrForm)
		}
	}
}

func TestOfMixedHeads(t *testing.T) {
	pick := picker(26)
	names := []string{"Content-Length", "content-length", "Transfer-Encoding", "TRANSFER-encoding", "a", "Content-Lengt"}
	values := []string{"7", "7", "7", "07", "", "chunked", "CHUNKED", "gzip", "1234567890"}
	told := map[string]int{}
	for range 20000 {
		var texts []string
		for range pick(5) {
			texts = append(texts, names[pick(len(names))], values[pick(len(values))])
		}
		want, wantErr := plainOf(with(texts...))
		told[fmt.Sprint(want.Kind, wantErr)]++
		checkOf(t, with(texts...), want, wantErr)
	}
	for _, kind := range []string{"1 0", "2 0", "3 0", "0 4"} {
		if told[kind] < 200 {
			t.Errorf("only these were told: %v", told)
		}
	}
}
