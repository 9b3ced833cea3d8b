package nets

import (
	"math"
	"regexp"
	"strconv"
	"strings"
	"testing"

	"gatewicket/api"
)

var number255 = `(?:0|[1-9][0-9]?|1[0-9][0-9]|2[0-4][0-9]|25[0-5])`

var rangeText = regexp.MustCompile(`\A(` + number255 + `)(?:-(` + number255 + `))?\z`)

// plainBytes is P22's Bytes, read by the library.
func plainBytes(s string) (api.Set, api.Errno) {
	var in [256]bool
	for _, text := range strings.Split(s, ",") {
		m := rangeText.FindStringSubmatch(text)
		if m == nil {
			return api.Set{}, api.ErrSyntax
		}
		first, _ := strconv.Atoi(m[1])
		last := first
		if m[2] != "" {
			last, _ = strconv.Atoi(m[2])
		}
		if first > last {
			return api.Set{}, api.ErrSyntax
		}
		for c := first; c <= last; c++ {
			in[c] = true
		}
	}
	var set api.Set
	for c, is := range in {
		if is {
			set[c/64] |= 1 << (c % 64)
		}
	}
	return set, api.OK
}

func checkBytes(t *testing.T, s string, want api.Set, wantErr api.Errno) {
	t.Helper()
	if set, e := Bytes(s); set != want || e != wantErr {
		t.Errorf("Bytes(%.60q) = %x, %d; want %x, %d", s, set, e, want, wantErr)
	}
}

func checkPlain(t *testing.T, s string) api.Errno {
	t.Helper()
	want, wantErr := plainBytes(s)
	checkBytes(t, s, want, wantErr)
	return wantErr
}

func TestBytes(t *testing.T) {
	const all = math.MaxUint64
	for s, want := range map[string]api.Set{
		"0": {1}, "1": {2}, "63": {1 << 63}, "64": {0, 1}, "127": {0, 1 << 63}, "128": {0, 0, 1}, "191": {0, 0, 1 << 63}, "192": {0, 0, 0, 1}, "255": {0, 0, 0, 1 << 63},
		"0-63,255": {all, 0, 0, 1 << 63}, "0-255": {all, all, all, all}, "0-0": {1}, "255-255": {0, 0, 0, 1 << 63}, "5-6": {96}, "62-65": {3 << 62, 3}, "1-254": {all - 1, all, all, all >> 1},
		"9,10,13,32-126": {1<<9 | 1<<10 | 1<<13 | (all - math.MaxUint32), all >> 1},
		// In any order, and as often as one likes.
		"255,0": {1, 0, 0, 1 << 63}, "3,3,3": {8}, "1-4,2-3,0-2": {31}, "4-5,1-2": {54}, "0-255,7": {all, all, all, all},
	} {
		checkBytes(t, s, want, api.OK)
	}
}

func TestBytesRefuses(t *testing.T) {
	for _, s := range []string{
		"", " ", "-", ",", ",,", "--", "-,-", "x", "5-4", "255-0", "1-0", "256", "999", "1000", "256-256", "0-256", "256-0", "300-301", "00", "01", "007", "000", "00-1", "0-01", "1-02", "-1", "-0", "0-", "1-", "+1", "1-+2", "1--2", "1-2-3", "1-2-", "-1-2",
		"1,", ",1", "1,,2", "1, 2", " 1", "1 ", "1 -2", "1- 2", "1;2", "1 2", "1.2", "0x1", "a", "a-z", "1\n", "\x00", "\xff", "1,\xd9\xa1", "4294967296", "999999999", "9999999999", "18446744073709551616", "0-18446744073709551617",
		"1,2,5-4", "5-4,1", "0-255,256", "0-255,", strings.Repeat("1", 100000), strings.Repeat(",", 100000), strings.Repeat("-", 100000), times(100000, "0-255") + ",x",
	} {
		checkBytes(t, s, api.Set{}, api.ErrSyntax)
	}
}

// How many ranges there are has no bound.
func TestBytesOfManyRanges(t *testing.T) {
	var odd []string
	want := api.Set{}
	for c := 1; c < 256; c += 2 {
		odd = append(odd, strconv.Itoa(c))
		want[c/64] |= 1 << (c % 64)
	}
	s := strings.Join(odd, ",")
	checkBytes(t, s, want, api.OK)
	checkBytes(t, times(1000, s), want, api.OK)
	checkBytes(t, times(100000, "64-127"), api.Set{0, math.MaxUint64}, api.OK)
}

func TestBytesOfAllRanges(t *testing.T) {
	for first := range 258 {
		checkPlain(t, strconv.Itoa(first))
		for last := range 258 {
			checkPlain(t, strconv.Itoa(first)+"-"+strconv.Itoa(last))
		}
	}
}

func TestBytesOfAllShortTexts(t *testing.T) {
	told := map[api.Errno]int{}
	for _, s := range append(wordsOf("0126-, ", 6), wordsOf("0123456789-,+x.", 4)...) {
		told[checkPlain(t, s)]++
	}
	if len(told) != 2 {
		t.Errorf("only these were told: %v", told)
	}
}

func TestBytesOfChangedTexts(t *testing.T) {
	for _, good := range []string{"0", "0-63,255", "10-20,199,200-249", "255-255"} {
		for _, s := range changed(good) {
			checkPlain(t, s)
		}
	}
}
