package serial

import (
	"fmt"
	"slices"
	"strings"
	"testing"

	"gatewicket/api"
)

func field(name, value string) api.Field { return api.Field{Name: name, Value: value} }

// with is a head of the method PUT and the target /a, its fields told as names
// and values by turns.
func with(texts ...string) api.Head {
	h := api.Head{Method: "PUT", Target: "/a"}
	for i := 0; i < len(texts); i += 2 {
		h.Fields = append(h.Fields, field(texts[i], texts[i+1]))
	}
	return h
}

func times(n int, s string) string { return strings.Repeat(s, n) }

func bytesText(c ...byte) string { return string(c) }

func picker(seed uint64) func(int) int {
	return func(below int) int {
		seed = seed*6364136223846793005 + 1442695040888963407
		return int(seed>>33) % below
	}
}

// show tells all of a thing in short.
func show(thing any) string {
	text := fmt.Sprintf("%q", thing)
	if len(text) > 100 {
		return text[:100] + ".."
	}
	return text
}

func same(a, b api.Head) bool {
	return a.Method == b.Method && a.Target == b.Target && slices.Equal(a.Fields, b.Fields)
}

// hopNames are the names that P31 lists.
var hopNames = []string{"connection", "keep-alive", "proxy-connection", "te", "trailer", "transfer-encoding", "upgrade", "content-length"}

// small is s with small letters, byte by byte.
func small(s string) string {
	b := []byte(s)
	for i := range b {
		if at := strings.IndexByte("ABCDEFGHIJKLMNOPQRSTUVWXYZ", b[i]); at >= 0 {
			b[i] = "abcdefghijklmnopqrstuvwxyz"[at]
		}
	}
	return string(b)
}

// names says whether the Value of a connection field names a field of that
// name, which is in small letters: each comma, and the ends, are tried as
// what the piece stands between.
func names(value, name string) bool {
	value = "," + value + ","
	for from := range value {
		if value[from] != ',' {
			continue
		}
		to := from + 1
		for value[to:] != "" && value[to] != ',' {
			to++
		}
		if to < len(value) && small(strings.Trim(value[from+1:to], "\t ")) == name {
			return true
		}
	}
	return false
}

// plainStrip is P31 field by field: each one is held against all others.
func plainStrip(h api.Head) api.Head {
	kept := api.Head{Method: h.Method, Target: h.Target}
	for _, f := range h.Fields {
		name := small(f.Name)
		named := slices.ContainsFunc(h.Fields, func(c api.Field) bool {
			return small(c.Name) == "connection" && names(c.Value, name)
		})
		if !named && !slices.Contains(hopNames, name) {
			kept.Fields = append(kept.Fields, f)
		}
	}
	return kept
}

func checkStrip(t *testing.T, h, want api.Head) {
	t.Helper()
	if got := Strip(h); !same(got, want) {
		t.Errorf("Strip(%s) = %s; want %s", show(h), show(got), show(want))
	}
	if plain := plainStrip(h); !same(plain, want) {
		t.Errorf("the tests want of %s %s and %s", show(h), show(want), show(plain))
	}
}

func TestStrip(t *testing.T) {
	for _, c := range []struct{ h, want api.Head }{
		{with(), with()},
		{api.Head{}, api.Head{}},
		{with("Host", "a"), with("Host", "a")},
		{with("A", "1", "B", "2", "A", "3", "a", "4"), with("A", "1", "B", "2", "A", "3", "a", "4")},
		{with("Connection", "x"), with()},
		{with("Connection", "x", "x", "1", "X", "2", "y", "x"), with("y", "x")},
		{with("A", "1", "Connection", "close", "B", "2"), with("A", "1", "B", "2")},
		{with("A", "1", "b", "2", "C", "3", "Connection", "B"), with("A", "1", "C", "3")},
		{with("connection", "B,a , \tC\t", "A", "1", "b", "2", "C", "3", "d", "4"), with("d", "4")},
		{with("Connection", "X-Long-Name", "x-long-name", "1", "x-long", "2", "x-long-names", "3"), with("x-long", "2", "x-long-names", "3")},
		{with("Connection", "a", "CONNECTION", "b,c", "a", "1", "B", "2", "C", "3", "D", "4"), with("D", "4")},
		{with("Content-Length", "3", "Host", "a"), with("Host", "a")},
		{with("Host", "a", "Transfer-Encoding", "chunked"), with("Host", "a")},
		{with("Connection", "host", "Host", "a"), with()},
		{with("Connection", "connection, close", "close", "1", "A", "2"), with("A", "2")},
		// What a field that is no connection field tells counts for nothing.
		{with("Keep-Alive", "a", "TE", "b", "Upgrade", "c", "Proxy-Connection", "d", "Trailer", "e", "a", "1", "b", "2", "c", "3", "d", "4", "e", "5"), with("a", "1", "b", "2", "c", "3", "d", "4", "e", "5")},
		{with("Connections", "a", "a", "1"), with("Connections", "a", "a", "1")},
		{with(" connection", "a", "a", "1"), with(" connection", "a", "a", "1")},
		{with("connection ", "a", "a", "1"), with("connection ", "a", "a", "1")},
		{with("Connection", "close", "X-Connection", "a", "a", "1"), with("X-Connection", "a", "a", "1")},
		// A field that is dropped because it is named names others if it is one itself.
		{with("Connection", "connection", "connection", "a", "a", "1", "b", "2"), with("b", "2")},
	} {
		checkStrip(t, c.h, c.want)
	}
}

// Each name of the chapter's list, in any letters, goes; one with a byte more
// or less stays.
func TestStripOfListedNames(t *testing.T) {
	for _, name := range hopNames {
		for _, n := range []string{name, strings.ToUpper(name), strings.ToUpper(name[:1]) + name[1:], name[:1] + strings.ToUpper(name[1:])} {
			checkStrip(t, with(n, "b"), with())
			checkStrip(t, with("A", "1", n, "b", "C", "2", n, "d", "E", "3"), with("A", "1", "C", "2", "E", "3"))
		}
		for _, n := range []string{name[1:], name[:len(name)-1], name + "s", "x" + name, name + " ", " " + name, name + "\t", name + ",", name + ":", name + "\x00", strings.ReplaceAll(name, "e", "\u0435"), strings.ReplaceAll(name, "-", "_") + "_", strings.ReplaceAll(name, "k", "\u212a") + "\u212a"} {
			checkStrip(t, with("A", "1", n, "b"), with("A", "1", n, "b"))
		}
	}
	for _, n := range []string{"Host", "Accept", "Cookie", "Content-Type", "Content-Encoding", "Content", "Proxy-Authorization", "Alive", "Encoding", "TE-x", "Trailers", "Upgrade-Insecure-Requests", "Via", "Date", "", " ", ",", "\x00", "\xff"} {
		checkStrip(t, with("A", "1", n, "b"), with("A", "1", n, "b"))
	}
}

// All else stays as it is, whatever it is.
func TestStripKeepsAllElse(t *testing.T) {
	for i := range 256 {
		c := bytesText(byte(i))
		for _, s := range []string{c, "a" + c, c + "a", c + "a" + c} {
			h := api.Head{Method: s, Target: s + "b", Fields: []api.Field{field("n"+s, s), field("c", s), field("C", "")}}
			checkStrip(t, h, h)
		}
	}
	checkStrip(t, api.Head{Method: "connection", Target: "te"}, api.Head{Method: "connection", Target: "te"})
	long := with("A", times(100000, "b"), times(100000, "c"), "d")
	checkStrip(t, long, long)
}

// Each byte is tried beside the name in the Value of a connection field, and
// in the name.
func TestStripOfEachByte(t *testing.T) {
	for i := range 256 {
		c := bytesText(byte(i))
		apart := strings.Contains("\t ,", c)
		for _, value := range []string{c + "ab", "ab" + c, c + "ab" + c, "x," + c + "ab", "ab" + c + ",x", c + c + "ab" + c + c} {
			want := with("z", "2")
			if !apart {
				want = with("AB", "1", "z", "2")
			}
			checkStrip(t, with("Connection", value, "AB", "1", "z", "2"), want)
		}
		// Only a comma cuts.
		want := with("ab", "1", "a", "2", "b", "3")
		if c == "," {
			want = with("ab", "1")
		}
		checkStrip(t, with("Connection", "a"+c+"b", "ab", "1", "a", "2", "b", "3"), want)
		for j := range 256 {
			d := bytesText(byte(j))
			h := with("Connection", "x"+c+"y", "x"+d+"y", "1")
			if small(c) == small(d) && c != "," {
				checkStrip(t, h, with())
			} else {
				checkStrip(t, h, with("x"+d+"y", "1"))
			}
		}
	}
}

// A piece without anything names the field without a name, and no other.
func TestStripOfEmptyPieces(t *testing.T) {
	for _, value := range []string{"", ",", " ", "\t", " , ", ",,,", "x,", ",x", "x,,y", "x, \t,y"} {
		checkStrip(t, with("Connection", value, "", "1", "a", "2", " ", "3", ",", "4"), with("a", "2", " ", "3", ",", "4"))
	}
	checkStrip(t, with("Connection", "x", "", "1"), with("", "1"))
	checkStrip(t, with("", "1"), with("", "1"))
}

// A name is taken as it is, not trimmed, nor cut.
func TestStripOfNamesThatAreNoTokens(t *testing.T) {
	for _, c := range []struct {
		value, name string
		goes        bool
	}{
		{"a b", "A B", true}, {"a b", "a", false}, {"a;q=1", "a", false}, {"a;q=1", "A;Q=1", true}, {"\"a\"", "a", false}, {" a", " a", false}, {"a", " a", false}, {"a", "a ", false}, {"a,b", "a,b", false}, {"\x00", "\x00", true}, {"\xc3\x89", "\xc3\xa9", false}, {"\xc3\x89", "\xc3\x89", true}, {"\u212a", "k", false}, {"K", "\u212a", false}, {"\xa0a", "a", false}, {"\r\na", "a", false}, {"\va", "a", false}, {"a\r\n", "a", false},
	} {
		want := with("z", "2")
		if !c.goes {
			want = with(c.name, "1", "z", "2")
		}
		checkStrip(t, with(c.name, "1", "Connection", c.value, "z", "2"), want)
	}
}

// All short Values of the signs that matter.
func TestStripOfAllShortValues(t *testing.T) {
	const signs = "aB, \t-"
	values := []string{""}
	for at := 0; at < len(values) && len(values[at]) < 5; at++ {
		for i := range len(signs) {
			values = append(values, values[at]+signs[i:i+1])
		}
	}
	names := []string{"A", "b", "ab", "aB", "bA", "a b", "-", "a-b", "", "aa", "\t", "a,b"}
	for _, value := range values {
		var texts []string
		for _, name := range names {
			texts = append(texts, name, "v")
		}
		h := with(append(texts, "connection", value)...)
		checkStrip(t, h, plainStrip(h))
		h = with(append([]string{"connection", "b", "CONNECTION", value}, texts...)...)
		checkStrip(t, h, plainStrip(h))
	}
}

// Many fields, of which half are named by as many others.
func TestStripOfManyFields(t *testing.T) {
	var h, want api.Head
	for i := range 60000 {
		name := fmt.Sprint("Name", i)
		h.Fields = append(h.Fields, field(name, "v"))
		if i%2 == 0 {
			h.Fields = append(h.Fields, field("Connection", "x,NAME"+fmt.Sprint(i)))
		} else {
			want.Fields = append(want.Fields, field(name, "v"))
		}
	}
	if got := Strip(h); !same(got, want) {
		t.Errorf("Strip = %s; want %s", show(got), show(want))
	}
	if got := Strip(with("Connection", times(1000000, ",")+"a", "A", "1", "b", "2")); !same(got, with("b", "2")) {
		t.Errorf("Strip = %s", show(got))
	}
}

// mixedHead is a head of names that matter and of names of them.
func mixedHead(pick func(int) int) api.Head {
	texts := []string{"a", "B", "c-d", "close", "Host", "TE", "te", "Content-Length", "Transfer-Encoding", "keep-alive", "Upgrade", "trailer", "Proxy-Connection", "x", "connection", ""}
	h := with()
	for range pick(8) {
		if pick(3) == 0 {
			var pieces []string
			for range pick(4) {
				pieces = append(pieces, []string{"", " ", "\t"}[pick(3)]+texts[pick(len(texts))]+[]string{"", "", " ", " \t"}[pick(4)])
			}
			h.Fields = append(h.Fields, field([]string{"Connection", "connection", "CONNECTION"}[pick(3)], strings.Join(pieces, ",")))
			continue
		}
		h.Fields = append(h.Fields, field(texts[pick(len(texts))], []string{"", "a", "chunked", "0", "3", "3", "B,x"}[pick(7)]))
	}
	return h
}

func TestStripOfMixedHeads(t *testing.T) {
	pick := picker(31)
	kept := map[int]int{}
	for range 100000 {
		h := mixedHead(pick)
		want := plainStrip(h)
		kept[len(want.Fields)]++
		checkStrip(t, h, want)
		checkStrip(t, want, want)
	}
	for n := range 5 {
		if kept[n] < 500 {
			t.Errorf("only so many fields were kept: %v", kept)
		}
	}
}

func TestPlainStripReads(t *testing.T) {
	if h := plainStrip(with("Connection", "close, X", "x", "1", "Y", "2", "te", "3")); !same(h, with("Y", "2")) {
		t.Error(h)
	}
	for value, want := range map[string]bool{"": false, "a": true, "b": false, "ab": false, "b,a": true, " A\t,b": true, "a b": false} {
		if names(value, "a") != want {
			t.Error(value)
		}
	}
	if !names("", "") || !names("a,", "") || names("a", "") || small("aZ[@\xc3") != "az[@\xc3" {
		t.Error("names, small")
	}
}
