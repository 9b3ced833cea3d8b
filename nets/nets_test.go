package nets

import (
	"fmt"
	"math"
	"net/netip"
	"slices"
	"strconv"
	"strings"
	"testing"

	"gatewicket/api"
)

// picker makes a row of numbers, mixed, but the same each time.
func picker(seed uint64) func() uint32 {
	return func() uint32 {
		seed = seed*6364136223846793005 + 1442695040888963407
		return uint32(seed >> 32)
	}
}

// wordsOf lists all texts of these bytes with at most so many of them.
func wordsOf(signs string, most int) []string {
	all := []string{""}
	for i := 0; i < len(all) && len(all[i]) < most; i++ {
		for k := range len(signs) {
			all = append(all, all[i]+signs[k:k+1])
		}
	}
	return all
}

// changed lists s with each byte put into each place, instead of each of its
// bytes, and with each byte left out and each place cut off.
func changed(s string) []string {
	var all []string
	for at := range len(s) + 1 {
		all = append(all, s[:at], s[at:])
		for c := range 256 {
			sign := string([]byte{byte(c)})
			all = append(all, s[:at]+sign+s[at:])
			if at < len(s) {
				all = append(all, s[:at]+sign+s[at+1:])
			}
		}
		if at < len(s) {
			all = append(all, s[:at]+s[at+1:])
		}
	}
	return all
}

// bitsOf are the bits of an address, the first one ahead.
func bitsOf(addr uint32) string { return fmt.Sprintf("%032b", addr) }

// plainParse is P21's Parse, read by the library.
func plainParse(s string) (api.Net, api.Errno) {
	whole := s
	if !strings.Contains(s, "/") {
		whole += "/32"
	}
	p, err := netip.ParsePrefix(whole)
	if err != nil || !p.Addr().Is4() {
		return api.Net{}, api.ErrSyntax
	}
	if p.Masked() != p {
		return api.Net{}, api.ErrForm
	}
	b := p.Addr().As4()
	return api.Net{Addr: uint32(b[0])<<24 | uint32(b[1])<<16 | uint32(b[2])<<8 | uint32(b[3]), Bits: p.Bits()}, api.OK
}

func checkParse(t *testing.T, s string, want api.Net, wantErr api.Errno) {
	t.Helper()
	if n, e := Parse(s); n != want || e != wantErr {
		t.Errorf("Parse(%.60q) = %x, %d; want %x, %d", s, n, e, want, wantErr)
	}
}

func net(addr uint32, bits int) api.Net { return api.Net{Addr: addr, Bits: bits} }

func TestParse(t *testing.T) {
	for s, want := range map[string]api.Net{
		"10.1.0.0/16": net(0x0a010000, 16), "10.1.0.0": net(0x0a010000, 32), "10.1.0.0/32": net(0x0a010000, 32), "10.1.0.0/17": net(0x0a010000, 17),
		"0.0.0.0": net(0, 32), "0.0.0.0/0": net(0, 0), "0.0.0.0/1": net(0, 1), "0.0.0.0/31": net(0, 31), "0.0.0.0/9": net(0, 9), "0.0.0.0/10": net(0, 10),
		"255.255.255.255": net(0xffffffff, 32), "255.255.255.255/32": net(0xffffffff, 32), "255.255.255.254/31": net(0xfffffffe, 31),
		"128.0.0.0/1": net(0x80000000, 1), "192.168.4.0/22": net(0xc0a80400, 22), "1.2.3.4": net(0x01020304, 32), "1.2.3.4/30": net(0x01020304, 30), "99.100.199.200/29": net(0x6364c7c8, 29),
	} {
		checkParse(t, s, want, api.OK)
	}
}

func TestParseRefuses(t *testing.T) {
	for _, s := range []string{
		"", " ", "-", "x", "1", "1.", ".1", "1.2", "1.2.3", "1.2.3.", ".1.2.3", "1..2.3", "1.2.3..4", "...", "1.2.3.4.", ".1.2.3.4", "1.2.3.4.5", "1.2.3.4.5/8",
		"01.2.3.4", "1.02.3.4", "1.2.00.4", "1.2.3.04", "1.2.3.000", "256.0.0.0", "0.256.0.0", "0.0.256.0", "0.0.0.256", "1.2.3.1000", "1.2.3.999999999", "1.2.3.9999999999", "1.2.3.4294967296", "1.2.3.18446744073709551616",
		"-1.2.3.4", "+1.2.3.4", "1.2.3.-4", "0x1.2.3.4", "a.2.3.4", "1.2.3.f", " 1.2.3.4", "1.2.3.4 ", "1. 2.3.4", "1.2.3.4\n", "1,2,3,4", "1.2.3.4,5.6.7.8", "1:2:3:4", "::1", "::ffff:1.2.3.4", "1.2.3.\xd9\xa1", "1.2.3.\x00",
		"/", "/8", "/0", "0/0", "0.0.0/0", "0.0.0.0/", "0.0.0.0//0", "0.0.0.0/0/", "0.0.0.0/0/0", "/0.0.0.0", "0.0.0.0/33", "0.0.0.0/00", "0.0.0.0/01", "0.0.0.0/032", "0.0.0.0/08", "0.0.0.0/-0", "0.0.0.0/-1", "0.0.0.0/+1", "0.0.0.0/ 1", "0.0.0.0/1 ",
		"0.0.0.0 /1", "0.0.0.0/a", "0.0.0.0/1.0", "0.0.0.0/255.0.0.0", "0.0.0.0/100", "0.0.0.0/4294967296", "0.0.0.0/999999999", "0.0.0.0/9999999999",
		// An address that has bits behind is told only of what can be read.
		"1.2.3.5/33", "1.2.3.5/031", "1.2.3/8", "1.2.3.5/", "1.2.3.256/8",
		strings.Repeat("1.", 100000), strings.Repeat("1", 100000), "1.2.3.4/" + strings.Repeat("0", 100000), strings.Repeat("/", 100000),
	} {
		checkParse(t, s, api.Net{}, api.ErrSyntax)
	}
	for _, s := range []string{"1.2.3.5/31", "0.0.0.1/0", "128.0.0.0/0", "255.255.255.255/31", "255.255.255.255/0", "10.1.0.1/16", "10.1.128.0/16", "64.0.0.0/1", "0.0.0.1/31", "0.1.0.0/15"} {
		checkParse(t, s, api.Net{}, api.ErrForm)
	}
}

// Each number is tried at each of its places, in all writings of three signs.
func TestParseOfEachNumber(t *testing.T) {
	told := map[bool]int{}
	for _, text := range wordsOf("0123456789-+ x", 3) {
		n, err := strconv.Atoi(text)
		good := err == nil && text == strconv.Itoa(n)
		for i := range 4 {
			parts := []string{"1", "2", "3", "4"}
			parts[i] = text
			want, wantErr := api.Net{}, api.ErrSyntax
			if good && n >= 0 && n <= 255 {
				shift := 8 * (3 - i)
				want, wantErr = net(0x01020304&^(255<<shift)|uint32(n)<<shift, 32), api.OK
			}
			told[wantErr == api.OK]++
			checkParse(t, strings.Join(parts, "."), want, wantErr)
		}
		want, wantErr := api.Net{}, api.ErrSyntax
		if good && n >= 0 && n <= 32 {
			want, wantErr = net(0, n), api.OK
		}
		told[wantErr == api.OK]++
		checkParse(t, "0.0.0.0/"+text, want, wantErr)
	}
	if told[true] != 4*256+33 {
		t.Errorf("%d were taken", told[true])
	}
}

func TestParseOfChangedTexts(t *testing.T) {
	told := map[api.Errno]int{}
	for _, good := range []string{"0.0.0.0", "10.1.0.0/16", "1.2.3.4/30", "255.250.249.199", "128.0.0.0/1", "0.0.0.0/0", "192.168.100.20/32"} {
		for _, s := range changed(good) {
			want, wantErr := plainParse(s)
			told[wantErr]++
			checkParse(t, s, want, wantErr)
		}
	}
	if len(told) != 3 {
		t.Errorf("only these were told: %v", told)
	}
}

// Of each number of bits an address is tried with each of its bits alone.
func TestParseOfEachBit(t *testing.T) {
	for bits := range 33 {
		for at := range 32 {
			addr := uint32(1) << (31 - at)
			text, _ := Print(net(addr, 32))
			want, wantErr := net(addr, bits), api.OK
			if at >= bits {
				want, wantErr = api.Net{}, api.ErrForm
			}
			checkParse(t, text+"/"+strconv.Itoa(bits), want, wantErr)
		}
	}
}

func checkPrint(t *testing.T, n api.Net, want string, wantErr api.Errno) {
	t.Helper()
	if s, e := Print(n); s != want || e != wantErr {
		t.Errorf("Print(%x) = %q, %d; want %q, %d", n, s, e, want, wantErr)
	}
}

func TestPrint(t *testing.T) {
	for want, n := range map[string]api.Net{
		"10.1.0.0/16": net(0x0a010000, 16), "255.255.255.255": net(0xffffffff, 32), "0.0.0.0": net(0, 32), "0.0.0.0/0": net(0, 0), "0.0.0.0/31": net(0, 31), "128.0.0.0/1": net(0x80000000, 1),
		"1.2.3.4": net(0x01020304, 32), "1.2.3.4/30": net(0x01020304, 30), "100.10.9.99": net(0x640a0963, 32), "255.255.255.254/31": net(0xfffffffe, 31),
	} {
		checkPrint(t, n, want, api.OK)
	}
	for _, n := range []api.Net{net(0, -1), net(0, 33), net(0, 64), net(0, math.MinInt), net(0, math.MaxInt), net(1<<31, -1), net(1, 33), net(1, 31), net(1, 0), net(1<<31, 0), net(0x0a010000, 15), net(0xffffffff, 31), net(0x40000000, 1)} {
		checkPrint(t, n, "", api.ErrArg)
	}
}

func TestPrintOfEachBit(t *testing.T) {
	for bits := -3; bits <= 40; bits++ {
		for at := range 32 {
			n := net(1<<(31-at), bits)
			s, e := Print(n)
			if good := 0 <= bits && bits <= 32 && at < bits; good != (e == api.OK) || good != (s != "") {
				t.Errorf("Print(%x) = %q, %d", n, s, e)
			}
		}
	}
}

// What is printed is read as the library reads it, and as Parse does.
func TestPrintIsParsed(t *testing.T) {
	pick := picker(1)
	for range 20000 {
		bits := int(pick() % 33)
		n := net(uint32(uint64(pick())>>(32-bits)<<(32-bits)), bits)
		s, e := Print(n)
		if e != api.OK || strings.HasSuffix(s, "/32") {
			t.Errorf("Print(%x) = %q, %d", n, s, e)
		}
		if again, e := plainParse(s); again != n || e != api.OK {
			t.Errorf("Print(%x) = %q, which is %x, %d", n, s, again, e)
		}
		checkParse(t, s, n, api.OK)
	}
}

func TestIn(t *testing.T) {
	for _, c := range []struct {
		n    api.Net
		addr uint32
		want bool
	}{
		{net(0x0a010000, 16), 0x0a01ffff, true}, {net(0x0a010000, 16), 0x0a010000, true}, {net(0x0a010000, 16), 0x0a020000, false}, {net(0x0a010000, 16), 0x0a00ffff, false}, {net(0x0a010000, 16), 0x8a010000, false},
		{net(0, 0), 0, true}, {net(0, 0), 0xffffffff, true}, {net(0, 1), 0x7fffffff, true}, {net(0, 1), 0x80000000, false}, {net(0x80000000, 1), 0x80000000, true}, {net(0x80000000, 1), 0x7fffffff, false},
		{net(7, 32), 7, true}, {net(7, 32), 6, false}, {net(6, 31), 7, true}, {net(6, 31), 8, false}, {net(0xffffffff, 32), 0xffffffff, true}, {net(0xffffffff, 32), 0x7fffffff, false},
		// Whatever Bits are, and what stands behind them.
		{net(0x0a01abcd, 16), 0x0a010000, true}, {net(0xffffffff, 0), 0, true}, {net(0xffffffff, -1), 0, true}, {net(0xffffffff, math.MinInt), 0, true},
		{net(7, 33), 7, true}, {net(7, 33), 6, false}, {net(7, 64), 6, false}, {net(7, math.MaxInt), 7, true}, {net(7, math.MaxInt), 0x80000007, false},
	} {
		if In(c.n, c.addr) != c.want {
			t.Errorf("In(%x, %x) is not %v", c.n, c.addr, c.want)
		}
	}
}

func TestInOfEachBit(t *testing.T) {
	pick := picker(2)
	all := []int{math.MinInt, math.MinInt32, -33, -32, math.MaxInt32, math.MaxInt}
	for bits := -3; bits <= 70; bits++ {
		all = append(all, bits)
	}
	for _, bits := range all {
		asked := min(max(bits, 0), 32)
		for range 20 {
			n := net(pick(), bits)
			addrs := []uint32{n.Addr, ^n.Addr, 0, pick(), pick()}
			for at := range 32 {
				addrs = append(addrs, n.Addr^1<<at, n.Addr^pick()>>at)
			}
			for _, addr := range addrs {
				if want := bitsOf(addr)[:asked] == bitsOf(n.Addr)[:asked]; In(n, addr) != want {
					t.Fatalf("In(%x, %x) is not %v", n, addr, want)
				}
			}
		}
	}
}

func checkList(t *testing.T, s string, want []api.Net, wantErr api.Errno) {
	t.Helper()
	l, e := List(s)
	if !slices.Equal(l, want) || e != wantErr || e != api.OK && l != nil {
		t.Errorf("List(%.60q) = %x, %d; want %x, %d", s, l, e, want, wantErr)
	}
}

// times is the text n times, with commas between.
func times(n int, s string) string { return strings.Repeat(s+",", n-1) + s }

func TestList(t *testing.T) {
	one, two := net(0x01010101, 32), net(0x0a010000, 16)
	checkList(t, "1.1.1.1", []api.Net{one}, api.OK)
	checkList(t, "0.0.0.0/0,1.1.1.1", []api.Net{net(0, 0), one}, api.OK)
	checkList(t, "1.1.1.1,10.1.0.0/16,1.1.1.1,1.1.1.1/32", []api.Net{one, two, one, one}, api.OK)
	checkList(t, times(29, "10.1.0.0/16"), slices.Repeat([]api.Net{two}, 29), api.OK)
	checkList(t, times(30, "10.1.0.0/16"), slices.Repeat([]api.Net{two}, 30), api.OK)
}

func TestListRefuses(t *testing.T) {
	for want, texts := range map[api.Errno][]string{
		api.ErrSyntax: {
			"", ",", ",,", "-", " ", "x", "1.1.1", "1.1.1.1,", ",1.1.1.1", "1.1.1.1,,1.1.1.1", "1.1.1.1 ,1.1.1.1", "1.1.1.1, 1.1.1.1", "1.1.1.1;1.1.1.1", "1.1.1.1 1.1.1.1", "1.1.1.1,1.1.1.1/33",
			"x,1.2.3.5/31", "1.1.1.1,x,1.2.3.5/31", ",1.2.3.5/31", "1.1.1.1,1.2.3,1.2.3.5/31,x", strings.Repeat(",", 29), times(29, "1.1.1.1") + ",", times(30, "x"), strings.Repeat("1", 100000),
		},
		api.ErrForm:  {"1.2.3.5/31", "1.1.1.1,1.2.3.5/31", "1.2.3.5/31,x", "1.2.3.5/31,", "1.1.1.1,1.2.3.5/31,x,1.1.1.1", times(30, "1.2.3.5/31"), times(29, "1.1.1.1") + ",0.0.0.1/0"},
		api.ErrLarge: {times(31, "1.1.1.1"), times(30, "1.1.1.1") + ",", strings.Repeat(",", 30), times(31, "x"), times(31, "1.2.3.5/31"), "x," + times(30, "1.1.1.1"), "1.2.3.5/31," + times(30, "1.1.1.1"), strings.Repeat(",", 100000), times(100000, "1.1.1.1")},
	} {
		for _, s := range texts {
			checkList(t, s, nil, want)
		}
	}
}

// plainList is P21's List as it is told.
func plainList(s string) ([]api.Net, api.Errno) {
	texts := strings.Split(s, ",")
	if len(texts) > 30 {
		return nil, api.ErrLarge
	}
	var l []api.Net
	for _, text := range texts {
		n, e := plainParse(text)
		if e != api.OK {
			return nil, e
		}
		l = append(l, n)
	}
	return l, api.OK
}

func TestListOfMixedOnes(t *testing.T) {
	pick := picker(3)
	texts := []string{"1.1.1.1", "10.1.0.0/16", "0.0.0.0/0", "255.255.255.254/31", "8.8.8.0/24", "7.0.0.0/8", "1.2.3.4", "128.0.0.0/1"}
	wrong := []string{"", "x", "1.2.3.5/31", "1.2.3", "1.2.3.4/33", "0.0.0.1/0"}
	told := map[api.Errno]int{}
	for range 5000 {
		var list []string
		for range 1 + pick()%35 {
			text := texts[pick()%uint32(len(texts))]
			if pick()%16 == 0 {
				text = wrong[pick()%uint32(len(wrong))]
			}
			list = append(list, text)
		}
		s := strings.Join(list, ",")
		want, wantErr := plainList(s)
		told[wantErr]++
		checkList(t, s, want, wantErr)
	}
	for _, s := range changed("1.2.3.4/30,0.0.0.0/0,9.9.9.9") {
		want, wantErr := plainList(s)
		checkList(t, s, want, wantErr)
	}
	if len(told) != 4 {
		t.Errorf("only these were told: %v", told)
	}
}
