package clean

import (
	"path"
	"strings"
	"testing"
)

// wordsOf lists all texts of these signs with at most so many of them.
func wordsOf(signs []string, most int) []string {
	all := []string{""}
	from := 0
	for range most {
		upTo := len(all)
		for ; from < upTo; from++ {
			for _, sign := range signs {
				all = append(all, all[from]+sign)
			}
		}
	}
	return all
}

func oneByte(i int) string { return string([]byte{byte(i)}) }

func checkPath(t *testing.T, s, want string) {
	t.Helper()
	if got := Path(s); got != want {
		t.Errorf("Path(%q) = %q; want %q", s, got, want)
	}
}

func TestPath(t *testing.T) {
	for s, want := range map[string]string{
		"/a/./b/../c": "/a/c", "a": "a", "/a": "/a", "a/b": "a/b", "/a/b/c": "/a/b/c", "a//b": "a/b", "a/./b": "a/b", "a/x/../b": "a/b", "a/b/../../c": "c",
		"/a/b/../../c": "/c", "./a": "a", "././a": "a", "//a": "/a", "///a//b": "/a/b", "a b/c": "a b/c", "a/b/c/../../d": "a/d",
	} {
		checkPath(t, s, want)
	}
}

func TestPathWithNothingLeft(t *testing.T) {
	for s, want := range map[string]string{
		"": "", ".": "", "./": "", "./.": "", ".//.": "", "a/..": "", "a/../": "", "a/../.": "", "a/b/../..": "", "./a/..": "",
		"/": "/", "//": "/", "///": "/", "/.": "/", "/./": "/", "/..": "/", "/../": "/", "/../..": "/", "/a/..": "/", "/a/../": "/", "/a/../..": "/", "/a/.././": "/",
	} {
		checkPath(t, s, want)
	}
}

func TestPathGoingBackBeyondItsBegin(t *testing.T) {
	for s, want := range map[string]string{
		"../a": "../a", "../../a": "../../a", ".././../a": "../../a", "a/../../b": "../b", "a/../../../b": "../../b", "../a/../b": "../b", "../a/../../b": "../../b", "a/../..": "../", "./../a": "../a",
		"/../a": "/a", "/../../a": "/a", "//../a": "/a", "/./../a": "/a", "/a/../../b": "/b", "/a/../../../b/c": "/b/c", "/../a/../b": "/b", "/a/b/../../../../c": "/c",
	} {
		checkPath(t, s, want)
	}
}

func TestPathEndsAsItDid(t *testing.T) {
	for s, want := range map[string]string{
		"a/": "a/", "a//": "a/", "a/.": "a/", "a/./": "a/", "a/b/": "a/b/", "a/b/.": "a/b/", "a/b/..": "a/", "a/b/../": "a/", "a/b/../.": "a/", "a/b/../c": "a/c",
		"/a/": "/a/", "/a/.": "/a/", "/a/b/..": "/a/", "/../a/": "/a/", "/a/b/../c/..": "/a/", "./a/": "a/",
		"..": "..", "../": "../", "../.": "../", "../..": "../../", "../../": "../../", "../a/..": "../", "./..": "../", "a/../..": "../", "a/../../b/..": "../", "../a": "../a",
	} {
		checkPath(t, s, want)
	}
}

func TestPathTakesWholePiecesAlone(t *testing.T) {
	for _, s := range []string{
		"...", "/...", "a/...", ".../a", "a/.../b", "a..", "..a", "a/..b", "a../b", ".a", "a.", "a/.b", "a/b.", "a/b..", "/.a", "/..a", " ", "a/ ", "a/. ", "a/ ..", "..\\a", "a\\..\\b",
		"a/..\x00", "a/.\x00/b", "\x00/a", "%2e%2e/a", "a/%2e%2e/b", "a%2f../b", "\xff/\xfe", "/\xff", "a/\u2024\u2024/b", "\u2215/a", "a?b", "\t/\n",
	} {
		checkPath(t, s, s)
	}
}

func TestPathOfEachByte(t *testing.T) {
	for i := range 256 {
		c := oneByte(i)
		for _, s := range []string{c, "a" + c + "b", "/" + c + "/", c + c + "/a", "a/" + c + "./b", "a/." + c + "/b", "a" + c + "../b", "a/.." + c + "b", "a/" + c + c, "/x" + c} {
			checkPath(t, s, plainPath(s))
		}
	}
}

func TestPathOfAllShortTexts(t *testing.T) {
	for _, s := range wordsOf([]string{"/", ".", "a"}, 9) {
		checkPath(t, s, plainPath(s))
	}
	for _, s := range wordsOf([]string{"/", "/.", "/..", "..", "/ab"}, 6) {
		checkPath(t, s, plainPath(s))
	}
}

// The library's path.Clean goes the same steps, but for how it ends and how it
// writes nothing.
func TestPathLeadsWhereTheLibrarySays(t *testing.T) {
	for _, s := range wordsOf([]string{"/", ".", "..", "b", "cd"}, 6) {
		if got, want := path.Clean(Path(s)), path.Clean(s); got != want {
			t.Errorf("Path(%q) leads to %q; want %q", s, got, want)
		}
	}
}

func TestPathOfAPathStays(t *testing.T) {
	for _, s := range wordsOf([]string{"/", ".", "..", "b"}, 6) {
		once := Path(s)
		checkPath(t, once, once)
	}
}

// plainPath goes from the right, counting the steps back that are not yet paid.
func plainPath(s string) string {
	pieces := strings.Split(s, "/")
	rooted := s != "" && s[0] == '/'
	path, back, found := "", 0, false
	ahead := func(piece string) {
		if found {
			piece += "/"
		}
		path, found = piece+path, true
	}
	for i := len(pieces) - 1; i >= 0; i-- {
		switch {
		case pieces[i] == "" || pieces[i] == ".":
		case pieces[i] == "..":
			back++
		case back > 0:
			back--
		default:
			ahead(pieces[i])
		}
	}
	for ; back > 0 && !rooted; back-- {
		ahead("..")
	}
	last := pieces[len(pieces)-1]
	if found && len(pieces) > 1 && (last == "" || last == "." || last == "..") {
		path += "/"
	}
	if rooted {
		path = "/" + path
	}
	return path
}
