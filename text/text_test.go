package text

import (
	"encoding/binary"
	"encoding/hex"
	"fmt"
	"math"
	"math/rand"
	"net/netip"
	"strings"
	"testing"

	"tenancy/addr"
	"tenancy/api"
)

var top = api.Addr{Hi: math.MaxUint64, Lo: math.MaxUint64}

// of is the address of eight groups.
func of(all ...uint16) api.Addr {
	a := api.Addr{}
	for i, group := range all {
		if i < 4 {
			a.Hi = a.Hi<<16 | uint64(group)
		} else {
			a.Lo = a.Lo<<16 | uint64(group)
		}
	}
	return a
}

// shapes are addresses with each choice of groups that are 0.
func shapes() []api.Addr {
	var list []api.Addr
	for mask := range 256 {
		var all [8]uint16
		for i := range all {
			if mask>>i&1 == 1 {
				all[i] = []uint16{1, 0xa0, 0xfed, 0xffff, 0x10, 0x8000, 0x2001, 0xdb8}[(i+mask)%8]
			}
		}
		list = append(list, of(all[:]...))
	}
	return list
}

func chance() *rand.Rand { return rand.New(rand.NewSource(2)) }

// mutants are s with one byte taken out, put in or put in another's place.
func mutants(s string, with string) []string {
	var list []string
	for i := range len(s) + 1 {
		for _, c := range []byte(with) {
			list = append(list, s[:i]+string([]byte{c})+s[i:])
			if i < len(s) {
				list = append(list, s[:i]+string([]byte{c})+s[i+1:])
			}
		}
		if i < len(s) {
			list = append(list, s[:i]+s[i+1:])
		}
	}
	return list
}

// P2.1

func TestPut4(t *testing.T) {
	for n, want := range map[uint32]string{
		0: "0.0.0.0", 1: "0.0.0.1", 3232235781: "192.168.1.5", 0x01020304: "1.2.3.4",
		0x0a000000: "10.0.0.0", 1 << 31: "128.0.0.0", math.MaxUint32: "255.255.255.255", 0x640a6309: "100.10.99.9",
	} {
		if got := Put4(n); got != want {
			t.Errorf("Put4(%x) is %q, not %q", n, got, want)
		}
		if got, ok := Get4(want); got != n || !ok {
			t.Errorf("Get4(%q) is %x, %v", want, got, ok)
		}
	}
	random := chance()
	for range 5000 {
		n := random.Uint32()
		if got, ok := Get4(Put4(n)); got != n || !ok {
			t.Fatalf("%x comes back as %x, %v", n, got, ok)
		}
	}
}

func TestGet4EachNumber(t *testing.T) {
	for place := range 4 {
		for n := range 300 {
			parts := []string{"7", "7", "7", "7"}
			parts[place] = fmt.Sprint(n)
			s := strings.Join(parts, ".")
			shift := 24 - 8*place
			want := uint32(0x07070707)&^(255<<shift) | uint32(n)<<shift
			if n > 255 {
				want = 0
			}
			if got, ok := Get4(s); got != want || ok != (n < 256) {
				t.Fatalf("Get4(%q) is %x, %v", s, got, ok)
			}
		}
	}
}

func TestGet4Wrong(t *testing.T) {
	list := []string{
		"192.168.1.05", "192.168.1", "1.2.3.256", "1.2.3.4.", "", ".", "...", "....", ".1.2.3.4", "1.2.3", "1.2.3.4.5",
		"1..3.4", "1.2.3.", ".2.3.4", "00.0.0.0", "0.0.0.00", "01.2.3.4", "+1.2.3.4", "-1.2.3.4", "-0.2.3.4", "1.2.3.4 ", " 1.2.3.4",
		"1.2.3.4\n", "1.2.3.4\x00", "1.2.3.a", "0x1.2.3.4", "1_0.2.3.4", "1.2.3.1000", "1,2,3,4", "1.2.3.4/32", "16909060",
		"1.2.3.4294967296", "1.2.3.18446744073709551616", "1.2.3.18446744073709551617", "::1.2.3.4", "\xb1.2.3.4", "٠.0.0.0", "1.2.3.٤",
	}
	for _, s := range list {
		if got, ok := Get4(s); got != 0 || ok {
			t.Errorf("Get4(%q) is %x, %v", s, got, ok)
		}
	}
}

func TestGet4LikeTheLibrary(t *testing.T) {
	for _, s := range []string{"10.0.255.9", "192.168.1.5", "0.0.0.0", "255.255.255.255"} {
		for _, m := range mutants(s, "0129.a:-+ \xff") {
			want, err := netip.ParseAddr(m)
			known := err == nil && want.Is4()
			got, ok := Get4(m)
			if ok != known {
				t.Errorf("Get4(%q) is %x, %v", m, got, ok)
				continue
			}
			if known {
				four := want.As4()
				if got != binary.BigEndian.Uint32(four[:]) {
					t.Errorf("Get4(%q) is %x", m, got)
				}
			}
		}
	}
}

// P2.2

func TestPut6Examples(t *testing.T) {
	for _, c := range []struct {
		a    api.Addr
		want string
	}{
		{of(0x2001, 0xdb8, 0, 0, 1, 0, 0, 1), "2001:db8::1:0:0:1"},
		{of(0, 0, 0, 1, 0, 0, 0, 0), "0:0:0:1::"},
		{of(0, 0, 0, 0, 1, 0, 0, 0), "::1:0:0:0"},
		{api.Addr{}, "::"},
		{of(0x2001, 0xdb8, 0, 1, 1, 1, 1, 1), "2001:db8:0:1:1:1:1:1"},
		{of(0, 1, 1, 1, 1, 1, 1, 0), "0:1:1:1:1:1:1:0"},
		{of(0, 0, 1, 0, 0, 1, 0, 0), "::1:0:0:1:0:0"},
		{of(1, 0, 0, 1, 0, 0, 0, 1), "1:0:0:1::1"},
		{of(1, 0, 0, 0, 1, 0, 0, 1), "1::1:0:0:1"},
		{of(1, 1, 1, 1, 1, 1, 0, 0), "1:1:1:1:1:1::"},
		{of(0, 0, 1, 1, 1, 1, 1, 1), "::1:1:1:1:1:1"},
		{of(1, 0, 1, 0, 1, 0, 1, 0), "1:0:1:0:1:0:1:0"},
		{api.Addr{Lo: 1}, "::1"},
		{api.Addr{Hi: 1 << 48}, "1::"},
		{api.Addr{Lo: 0xffff01020304}, "::ffff:102:304"},
		{top, "ffff:ffff:ffff:ffff:ffff:ffff:ffff:ffff"},
		{of(0xabcd, 0xef0, 0x12, 0x3, 0x4567, 0x89a, 0x10, 0x1000), "abcd:ef0:12:3:4567:89a:10:1000"},
	} {
		if got := Put6(c.a); got != c.want {
			t.Errorf("Put6(%x) is %q, not %q", c.a, got, c.want)
		}
		if got, ok := Get6(c.want); got != c.a || !ok {
			t.Errorf("Get6(%q) is %x, %v", c.want, got, ok)
		}
	}
}

// library is an address as the library has it.
func library(a api.Addr) netip.Addr {
	var bytes [16]byte
	binary.BigEndian.PutUint64(bytes[:8], a.Hi)
	binary.BigEndian.PutUint64(bytes[8:], a.Lo)
	return netip.AddrFrom16(bytes)
}

func TestPut6LikeTheLibrary(t *testing.T) {
	list := shapes()
	random := chance()
	for range 5000 {
		a := api.Addr{Hi: random.Uint64(), Lo: random.Uint64()}
		for range random.Intn(24) {
			a = sparse(a, random)
		}
		list = append(list, a)
	}
	for _, a := range list {
		if got, ok := Get6(Put6(a)); got != a || !ok {
			t.Fatalf("%x comes back as %x, %v", a, got, ok)
		}
		// The library writes these with dots.
		if library(a).Is4In6() {
			continue
		}
		if got, want := Put6(a), library(a).String(); got != want {
			t.Fatalf("Put6(%x) is %q, not %q", a, got, want)
		}
	}
}

// sparse puts 0 into the place of one of a's sixteen halves of a group.
func sparse(a api.Addr, random *rand.Rand) api.Addr {
	hole := uint64(0xff) << (8 * random.Intn(8))
	if random.Intn(2) == 0 {
		return api.Addr{Hi: a.Hi &^ hole, Lo: a.Lo}
	}
	return api.Addr{Hi: a.Hi, Lo: a.Lo &^ hole}
}

// TestGet6Shapes reads all texts of up to nine groups, with a :: in each place
// and without one.
func TestGet6Shapes(t *testing.T) {
	for count := range 10 {
		var list []string
		var all []uint16
		for i := range count {
			list = append(list, fmt.Sprintf("%0*X", 1+i%4, i+10))
			all = append(all, uint16(i+10))
		}
		s := strings.Join(list, ":")
		if got, ok := Get6(s); ok != (count == 8) || count != 8 && got != (api.Addr{}) || count == 8 && got != of(all...) {
			t.Errorf("Get6(%q) is %x, %v", s, got, ok)
		}
		for place := range count + 1 {
			s := strings.Join(list[:place], ":") + "::" + strings.Join(list[place:], ":")
			want := api.Addr{}
			if count < 8 {
				full := append([]uint16{}, all[:place]...)
				full = append(full, make([]uint16, 8-count)...)
				want = of(append(full, all[place:]...)...)
			}
			if got, ok := Get6(s); got != want || ok != (count < 8) {
				t.Errorf("Get6(%q) is %x, %v", s, got, ok)
			}
		}
	}
}

func TestGet6Right(t *testing.T) {
	for s, want := range map[string]api.Addr{
		"2001:DB8::":          of(0x2001, 0xdb8, 0, 0, 0, 0, 0, 0),
		"::1":                 of(0, 0, 0, 0, 0, 0, 0, 1),
		"1:2:3:4:5:6:7::":     of(1, 2, 3, 4, 5, 6, 7, 0),
		"::2:3:4:5:6:7:8":     of(0, 2, 3, 4, 5, 6, 7, 8),
		"1:2:3::5:6:7:8":      of(1, 2, 3, 0, 5, 6, 7, 8),
		"0001::":              of(1, 0, 0, 0, 0, 0, 0, 0),
		"::":                  {},
		"0::0":                {},
		"0:0:0:0:0:0:0:0":     {},
		"0000:000:00:0::0000": {},
		"aBcD:Ef::FeDc":       of(0xabcd, 0xef, 0, 0, 0, 0, 0, 0xfedc),
		"0:0:1::0:0":          of(0, 0, 1, 0, 0, 0, 0, 0),
		"FFFF:ffff:FFFF:ffff:FFFF:ffff:FFFF:ffff": top,
	} {
		if got, ok := Get6(s); got != want || !ok {
			t.Errorf("Get6(%q) is %x, %v", s, got, ok)
		}
	}
}

func TestGet6Wrong(t *testing.T) {
	list := []string{
		"1:2:3:4:5:6:7:8::", "::1:2:3:4:5:6:7:8", "1:2:3:4::5:6:7:8", "1::2::3", "12345::", "00001::", ":1::", "1:2:3", "1:::2", "::1:", "",
		":", ":::", "::::", "::1::", ":1:2:3:4:5:6:7", "1:2:3:4:5:6:7:", ":1:2:3:4:5:6:7:8", "1:2:3:4:5:6:7:8:", "1:2:3:4:5:6:7:8:9",
		"1:2:3:4:5:6:7", ":::1", "1:::", "g::", "::G", "::-1", "::+1", "::0x1", ":: ", " ::", "::\n", "::\x00", "1:: 2", "::1%eth0", "::1%",
		"::1.2.3.4", "::ffff:1.2.3.4", "1.2.3.4", "[::1]", "::/0", "::1/128", "::ffff\xff", "::\x10", "::\x11\x12", "::\x19", "::٣", "::１", "::é", "::K",
		"::@", "::`", "::/", "::A:B:", "fe80", "::_1", "::1_0",
	}
	for _, s := range list {
		if got, ok := Get6(s); got != (api.Addr{}) || ok {
			t.Errorf("Get6(%q) is %x, %v", s, got, ok)
		}
	}
	for c := range 256 {
		s := "::" + string([]byte{byte(c)})
		want := strings.IndexByte("0123456789abcdefABCDEF:", byte(c)) >= 0 && c != ':'
		if _, ok := Get6(s); ok != want {
			t.Errorf("Get6(%q) is %v", s, ok)
		}
	}
}

func TestGet6LikeTheLibrary(t *testing.T) {
	for _, s := range []string{"2001:db8::1:0:0:1", "1:2:3:4:5:6:7:8", "::", "fe80::", "1::2", "::abcd:1", "1:2:3:4:5:6:7::"} {
		for _, once := range append(mutants(s, "0aF:g"), s) {
			for _, m := range mutants(once, "1:F") {
				want, err := netip.ParseAddr(m)
				got, ok := Get6(m)
				if ok != (err == nil) || ok && library(got) != want || !ok && got != (api.Addr{}) {
					t.Fatalf("Get6(%q) is %x, %v", m, got, ok)
				}
			}
		}
	}
}

// P2.3

func TestPutGet(t *testing.T) {
	for _, c := range []struct {
		family int
		a      api.Addr
		want   string
	}{
		{api.V4, api.Addr{}, "0.0.0.0"},
		{api.V4, api.Addr{Lo: 0xc0a80105}, "192.168.1.5"},
		{api.V4, api.Addr{Lo: math.MaxUint32}, "255.255.255.255"},
		{api.V6, api.Addr{}, "::"},
		{api.V6, api.Addr{Lo: 0xc0a80105}, "::c0a8:105"},
		{api.V6, api.Addr{Lo: 1 << 32}, "::1:0:0"},
		{api.V6, top, "ffff:ffff:ffff:ffff:ffff:ffff:ffff:ffff"},
	} {
		if got := Put(c.family, c.a); got != c.want {
			t.Errorf("Put(%d, %x) is %q", c.family, c.a, got)
		}
		if got, ok := Get(c.family, c.want); got != c.a || !ok {
			t.Errorf("Get(%d, %q) is %x, %v", c.family, c.want, got, ok)
		}
	}
}

// noFamilies are numbers of no family.
func noFamilies() []int {
	return []int{math.MinInt, -6, -4, -1, 0, 1, 2, 3, 5, 7, 10, 32, 128, 1<<32 + 4, 1<<32 + 6, math.MaxInt}
}

func TestPutGetWrong(t *testing.T) {
	for _, a := range []api.Addr{{Lo: 1 << 32}, {Lo: 1<<32 + 5}, {Hi: 1}, {Hi: 1, Lo: 5}, top} {
		if got := Put(api.V4, a); got != "" {
			t.Errorf("Put(4, %x) is %q", a, got)
		}
	}
	for family, list := range map[int][]string{
		api.V4: {"", "::", "::1", "::c0a8:105", "1.2.3", "1.2.3.256", "1.2.3.04", "1.2.3.4/32"},
		api.V6: {"", "1.2.3.4", "::1.2.3.4", "1:2:3", "12345::", "::/0"},
	} {
		for _, s := range list {
			if got, ok := Get(family, s); got != (api.Addr{}) || ok {
				t.Errorf("Get(%d, %q) is %x, %v", family, s, got, ok)
			}
		}
	}
	for _, family := range noFamilies() {
		if got := Put(family, api.Addr{Lo: 1}); got != "" {
			t.Errorf("Put(%d) is %q", family, got)
		}
		for _, s := range []string{"", "0.0.0.1", "1.2.3.4", "::", "::1"} {
			if got, ok := Get(family, s); got != (api.Addr{}) || ok {
				t.Errorf("Get(%d, %q) is %x, %v", family, s, got, ok)
			}
		}
	}
}

// P2.4

func TestPrefixExamples(t *testing.T) {
	for _, c := range []struct {
		family int
		p      api.Prefix
		want   string
	}{
		{api.V4, api.Prefix{Addr: api.Addr{Lo: 0x0a000000}, Bits: 104}, "10.0.0.0/8"},
		{api.V4, api.Prefix{Bits: 96}, "0.0.0.0/0"},
		{api.V4, api.Prefix{Bits: 128}, "0.0.0.0/32"},
		{api.V4, api.Prefix{Addr: api.Addr{Lo: math.MaxUint32}, Bits: 128}, "255.255.255.255/32"},
		{api.V4, api.Prefix{Addr: api.Addr{Lo: 1 << 31}, Bits: 97}, "128.0.0.0/1"},
		{api.V6, api.Prefix{}, "::/0"},
		{api.V6, api.Prefix{Bits: 128}, "::/128"},
		{api.V6, api.Prefix{Addr: api.Addr{Lo: 0x0a000000}, Bits: 104}, "::a00:0/104"},
		{api.V6, api.Prefix{Addr: of(0x2001, 0xdb8, 0, 0, 0, 0, 0, 0), Bits: 32}, "2001:db8::/32"},
		{api.V6, api.Prefix{Addr: top, Bits: 128}, "ffff:ffff:ffff:ffff:ffff:ffff:ffff:ffff/128"},
		{api.V6, api.Prefix{Addr: api.Addr{Hi: 1 << 63}, Bits: 1}, "8000::/1"},
	} {
		if got := PutPrefix(c.family, c.p); got != c.want {
			t.Errorf("PutPrefix(%d, %x) is %q, not %q", c.family, c.p, got, c.want)
		}
		if got, ok := GetPrefix(c.family, c.want); got != c.p || !ok {
			t.Errorf("GetPrefix(%d, %q) is %x, %v", c.family, c.want, got, ok)
		}
	}
	// An address may be read in a form in which it isn't written.
	if got, ok := GetPrefix(api.V6, "2001:0DB8:0::/33"); got != (api.Prefix{Addr: of(0x2001, 0xdb8, 0, 0, 0, 0, 0, 0), Bits: 33}) || !ok {
		t.Error(got, ok)
	}
}

func TestPrefixLengths(t *testing.T) {
	for _, a := range []api.Addr{{}, {Lo: 1}, {Lo: 0xc0a80105}, {Lo: math.MaxUint32}, {Lo: 1 << 32}, {Hi: 1 << 63, Lo: 1 << 31}, top} {
		for bits := -3; bits < 135; bits++ {
			p := api.Prefix{Addr: a, Bits: bits}
			six := ""
			if addr.Sound(p) {
				six = fmt.Sprintf("%s/%d", Put6(a), bits)
			}
			if got := PutPrefix(api.V6, p); got != six {
				t.Fatalf("PutPrefix(6, %x) is %q, not %q", p, got, six)
			}
			four := ""
			if addr.Sound(p) && bits >= 96 && a.Hi == 0 && a.Lo < 1<<32 {
				four = fmt.Sprintf("%s/%d", Put4(uint32(a.Lo)), bits-96)
			}
			if got := PutPrefix(api.V4, p); got != four {
				t.Fatalf("PutPrefix(4, %x) is %q, not %q", p, got, four)
			}
			readLengths(t, a, bits)
		}
	}
}

// readLengths reads the text of an address and bits, also where it is no prefix.
func readLengths(t *testing.T, a api.Addr, bits int) {
	t.Helper()
	for family, base := range map[int]int{api.V4: 96, api.V6: 0} {
		want := api.Prefix{Addr: a, Bits: bits + base}
		known := Put(family, a) != "" && bits >= 0 && addr.Sound(want)
		if !known {
			want = api.Prefix{}
		}
		s := fmt.Sprintf("%s/%d", Put(family, a), bits)
		if got, ok := GetPrefix(family, s); got != want || ok != known {
			t.Fatalf("GetPrefix(%d, %q) is %x, %v", family, s, got, ok)
		}
	}
}

func TestPrefixWrong(t *testing.T) {
	for family, list := range map[int][]string{
		api.V4: {
			"10.0.0.1/8", "10.0.0.0/33", "10.0.0.0/08", "10.0.0.0", "10.0.0.0/", "/8", "/", "", "10.0.0.0//8", "10.0.0.0/8/", "10.0.0.0/8/8", "10.0.0/8",
			"10.0.0.0/-1", "10.0.0.0/+8", "10.0.0.0/ 8", "10.0.0.0 /8", "10.0.0.0/8 ", "010.0.0.0/8", "10.0.0.0/104", "0.0.0.0/128", "::/0", "::a00:0/104",
			"0.0.0.0/4611686018427387904", "0.0.0.0/9223372036854775807", "0.0.0.0/18446744073709551616", "0.0.0.1/31", "255.255.255.255/31", "1.2.3.4/0", "0.0.0.0/255.0.0.0",
			"0.0.0.0/-96", "0.0.0.0/-64",
		},
		api.V6: {
			"::1/127", "::1/0", "2001:db8::/28", "::/129", "::/00", "::/01", "::", "::/", "/0", "/", "", "::/0/", "::/0/0", "::/-0", "::/-1", "::/+1", "::/a",
			"::/ 1", "10.0.0.0/8", "1:2:3/0", "ffff:ffff:ffff:ffff:ffff:ffff:ffff:ffff/127", "::/4611686018427387904", "::/18446744073709551616",
		},
	} {
		for _, s := range list {
			if got, ok := GetPrefix(family, s); got != (api.Prefix{}) || ok {
				t.Errorf("GetPrefix(%d, %q) is %x, %v", family, s, got, ok)
			}
		}
	}
	for _, family := range noFamilies() {
		for _, s := range []string{"10.0.0.0/8", "::/0", "", "/", "/0", "/8"} {
			if got, ok := GetPrefix(family, s); got != (api.Prefix{}) || ok {
				t.Errorf("GetPrefix(%d, %q) is %x, %v", family, s, got, ok)
			}
		}
		if got := PutPrefix(family, api.Prefix{Bits: 104}); got != "" {
			t.Errorf("PutPrefix(%d) is %q", family, got)
		}
	}
	for family, least := range map[int]int{api.V4: 96, api.V6: 0} {
		for _, bits := range []int{math.MinInt, math.MinInt + 95, math.MinInt + 96, least - 1, 129, math.MaxInt} {
			if got := PutPrefix(family, api.Prefix{Bits: bits}); got != "" {
				t.Errorf("PutPrefix(%d) of %d bits is %q", family, bits, got)
			}
		}
	}
}

// P2.5

func TestHex(t *testing.T) {
	var all []byte
	for c := range 256 {
		all = append(all, byte(c))
	}
	for _, s := range []string{"", "\x00", "\x00\xff", "\x0f\xf0", "a", "tenancy", "\x00\x00\x00", "é", string(all), strings.Repeat(string(all), 40)} {
		want := hex.EncodeToString([]byte(s))
		if got := Hex(s); got != want {
			t.Errorf("Hex(%q) is %q, not %q", s, got, want)
		}
		if got, ok := Unhex(want); got != s || !ok {
			t.Errorf("Unhex(%q) is %q, %v", want, got, ok)
		}
	}
	if got := Hex("\x00\xff"); got != "00ff" {
		t.Errorf("%q", got)
	}
}

// TestUnhexPairs reads all texts of two bytes.
func TestUnhexPairs(t *testing.T) {
	for c := range 256 * 256 {
		s := string([]byte{byte(c >> 8), byte(c)})
		known := strings.Trim(s, "0123456789abcdef") == ""
		want := ""
		if known {
			bytes, err := hex.DecodeString(s)
			if err != nil {
				t.Fatal(err)
			}
			want = string(bytes)
		}
		if got, ok := Unhex(s); got != want || ok != known {
			t.Fatalf("Unhex(%q) is %q, %v", s, got, ok)
		}
	}
}

func TestUnhexWrong(t *testing.T) {
	for _, s := range []string{"0", "0G", "0A", "A0", "FF", "000", "00ff0", "00 ff", " 00", "0x00", "00:ff", "00ffg0", "0000F0", "00ff\n", "00\x00\x00", "é", "00é", "００"} {
		if got, ok := Unhex(s); got != "" || ok {
			t.Errorf("Unhex(%q) is %q, %v", s, got, ok)
		}
	}
}

// P2.6

func TestNum(t *testing.T) {
	for n, want := range map[int]string{
		0: "0", 1: "1", -1: "-1", 10: "10", -10: "-10", 255: "255", 1 << 40: "1099511627776", 1 << 62: "4611686018427387904",
		-1 << 62: "-4611686018427387904", 1<<62 + 1: "4611686018427387905",
		math.MaxInt: "9223372036854775807", math.MinInt: "-9223372036854775808",
	} {
		if got := Num(n); got != want {
			t.Errorf("Num(%d) is %q", n, got)
		}
		back, known := n, n >= 0 && n <= 1<<62
		if !known {
			back = 0
		}
		if got, ok := GetNum(want); got != back || ok != known {
			t.Errorf("GetNum(%q) is %d, %v", want, got, ok)
		}
	}
	random := chance()
	for range 5000 {
		n := random.Int() >> 1 >> random.Intn(62)
		if got, ok := GetNum(Num(n)); got != n || !ok {
			t.Fatalf("%d comes back as %d, %v", n, got, ok)
		}
	}
}

func TestGetNumWrong(t *testing.T) {
	list := []string{
		"4611686018427387905", "-1", "01", "", "00", "000", "-0", "+0", "+1", "-", "+", " 1", "1 ", "1\n", "1\x00", "\x001", "1_000", "0x10", "0b1", "0o7", "1e3",
		"1.0", "a", "1a", "a1", "5000000000000000000", "9223372036854775807", "9223372036854775808", "10000000000000000000", "18446744073709551615",
		"18446744073709551616", "18446744073709551617", "04611686018427387904", "40000000000000000000", strings.Repeat("9", 1000), strings.Repeat("0", 1000), "0" + strings.Repeat("0", 40) + "1",
		"٣", "１", "\xff", "NaN", "-4611686018427387904",
	}
	for _, s := range list {
		if got, ok := GetNum(s); got != 0 || ok {
			t.Errorf("GetNum(%q) is %d, %v", s, got, ok)
		}
	}
}
