package octet

import (
	"encoding/binary"
	"math"
	"math/rand"
	"strings"
	"testing"

	"tenancy/api"
)

func chance() *rand.Rand { return rand.New(rand.NewSource(4)) }

// noise is n bytes that a random source gives.
func noise(n int, random *rand.Rand) string {
	list := make([]byte, n)
	random.Read(list)
	return string(list)
}

// rising is n bytes, no two neighbours of which are the same.
func rising(n int) string {
	list := make([]byte, n)
	for i := range list {
		list[i] = byte(i + 1)
	}
	return string(list)
}

// ends are ints that are no place of a string and no number of its bytes:
// those whose sum with a small one, or with one another, goes round too.
func ends() []int {
	list := []int{-1, -2, -3, -4, -8, -16, -1 << 16, -1 << 31, -1 << 32, 1 << 32, 1 << 62}
	for i := range 20 {
		list = append(list, math.MinInt+i, math.MaxInt-i)
	}
	return list
}

// P4.1

func TestPutExamples(t *testing.T) {
	for _, c := range []struct {
		name string
		got  string
		want string
	}{
		{"Put16(0)", Put16(0), "\x00\x00"},
		{"Put16(1)", Put16(1), "\x00\x01"},
		{"Put16(255)", Put16(255), "\x00\xff"},
		{"Put16(256)", Put16(256), "\x01\x00"},
		{"Put16(258)", Put16(258), "\x01\x02"},
		{"Put16(0x8000)", Put16(0x8000), "\x80\x00"},
		{"Put16 of the greatest", Put16(math.MaxUint16), "\xff\xff"},
		{"Put32(0)", Put32(0), "\x00\x00\x00\x00"},
		{"Put32(1)", Put32(1), "\x00\x00\x00\x01"},
		{"Put32(0x01020304)", Put32(0x01020304), "\x01\x02\x03\x04"},
		{"Put32(0xfffefdfc)", Put32(0xfffefdfc), "\xff\xfe\xfd\xfc"},
		{"Put32 of the greatest", Put32(math.MaxUint32), "\xff\xff\xff\xff"},
		{"Put64(0)", Put64(0), "\x00\x00\x00\x00\x00\x00\x00\x00"},
		{"Put64(1)", Put64(1), "\x00\x00\x00\x00\x00\x00\x00\x01"},
		{"Put64(0x0102030405060708)", Put64(0x0102030405060708), "\x01\x02\x03\x04\x05\x06\x07\x08"},
		{"Put64(0xfffefdfcfbfaf9f8)", Put64(0xfffefdfcfbfaf9f8), "\xff\xfe\xfd\xfc\xfb\xfa\xf9\xf8"},
		{"Put64 of the greatest", Put64(math.MaxUint64), "\xff\xff\xff\xff\xff\xff\xff\xff"},
	} {
		if c.got != c.want {
			t.Errorf("%s is %x", c.name, c.got)
		}
	}
}

func TestGetExamples(t *testing.T) {
	for _, c := range []struct {
		at   int
		want uint16
		ok   bool
	}{
		{-1, 0, false}, {0, 258, true}, {1, 515, true}, {2, 0, false}, {3, 0, false}, {4, 0, false},
	} {
		if n, ok := Get16("\x01\x02\x03", c.at); n != c.want || ok != c.ok {
			t.Errorf("Get16 at %d is %d, %v", c.at, n, ok)
		}
	}
	if n, ok := Get32("\x00\xff\xfe\xfd\xfc", 1); n != 0xfffefdfc || !ok {
		t.Errorf("Get32 is %x, %v", n, ok)
	}
	if n, ok := Get64("\x00\xff\xfe\xfd\xfc\xfb\xfa\xf9\xf8", 1); n != 0xfffefdfcfbfaf9f8 || !ok {
		t.Errorf("Get64 is %x, %v", n, ok)
	}
}

func TestNumbersComeBack(t *testing.T) {
	for n := range math.MaxUint16 + 1 {
		checkNumbers(t, uint64(n))
	}
	for i := range 64 {
		bit := uint64(1) << i
		for _, n := range []uint64{bit, bit - 1, bit + 1, ^bit, -bit} {
			checkNumbers(t, n)
		}
	}
	random := chance()
	for range 5000 {
		checkNumbers(t, random.Uint64())
	}
}

// checkNumbers holds n, cut to each of the sizes, against the library's bytes.
func checkNumbers(t *testing.T, n uint64) {
	t.Helper()
	big := binary.BigEndian
	n16, n32 := uint16(n), uint32(n)
	if s := Put16(n16); s != string(big.AppendUint16(nil, n16)) {
		t.Fatalf("Put16(%x) is %x", n16, s)
	}
	if s := Put32(n32); s != string(big.AppendUint32(nil, n32)) {
		t.Fatalf("Put32(%x) is %x", n32, s)
	}
	if s := Put64(n); s != string(big.AppendUint64(nil, n)) {
		t.Fatalf("Put64(%x) is %x", n, s)
	}
	if got, ok := Get16(Put16(n16), 0); got != n16 || !ok {
		t.Fatalf("%x comes back as %x, %v", n16, got, ok)
	}
	if got, ok := Get32(Put32(n32), 0); got != n32 || !ok {
		t.Fatalf("%x comes back as %x, %v", n32, got, ok)
	}
	if got, ok := Get64(Put64(n), 0); got != n || !ok {
		t.Fatalf("%x comes back as %x, %v", n, got, ok)
	}
}

// reading is how a call answers from a place on: as bytes, and whether at all.
type reading struct {
	name string
	size int
	get  func(s string, at int) (string, bool)
}

// readings put what they got into bytes by the library, 0 where there is none.
func readings() []reading {
	big := binary.BigEndian
	return []reading{
		{"Get16", 2, func(s string, at int) (string, bool) {
			n, ok := Get16(s, at)
			return string(big.AppendUint16(nil, n)), ok
		}},
		{"Get32", 4, func(s string, at int) (string, bool) {
			n, ok := Get32(s, at)
			return string(big.AppendUint32(nil, n)), ok
		}},
		{"Get64", 8, func(s string, at int) (string, bool) {
			n, ok := Get64(s, at)
			return string(big.AppendUint64(nil, n)), ok
		}},
		{"GetAddr", 16, func(s string, at int) (string, bool) {
			a, ok := GetAddr(s, at)
			return string(big.AppendUint64(big.AppendUint64(nil, a.Hi), a.Lo)), ok
		}},
	}
}

// P4.1 and P4.2: each length of bytes, and each place in and beside them.
func TestGetAtEachPlace(t *testing.T) {
	random := chance()
	for _, r := range readings() {
		none := strings.Repeat("\x00", r.size)
		for length := range 40 {
			for _, s := range []string{rising(length), noise(length, random), strings.Repeat("\xff", length)} {
				for at := -r.size - 2; at <= length+r.size+2; at++ {
					want, wantOk := none, at >= 0 && at+r.size <= length
					if wantOk {
						want = s[at : at+r.size]
					}
					if got, ok := r.get(s, at); got != want || ok != wantOk {
						t.Fatalf("%s(%x, %d) is %x, %v", r.name, s, at, got, ok)
					}
				}
			}
		}
	}
}

func TestGetAtNoPlace(t *testing.T) {
	for _, r := range readings() {
		none := strings.Repeat("\x00", r.size)
		for _, s := range []string{"", "\xff", rising(r.size), rising(100)} {
			for _, at := range ends() {
				if got, ok := r.get(s, at); got != none || ok {
					t.Fatalf("%s(%x, %d) is %x, %v", r.name, s, at, got, ok)
				}
			}
		}
	}
}

// P4.2

func TestAddr(t *testing.T) {
	for _, c := range []struct {
		a    api.Addr
		want string
	}{
		{api.Addr{}, strings.Repeat("\x00", 16)},
		{api.Addr{Lo: 1}, strings.Repeat("\x00", 15) + "\x01"},
		{api.Addr{Hi: 1}, strings.Repeat("\x00", 7) + "\x01" + strings.Repeat("\x00", 8)},
		{api.Addr{Lo: 0xc0a80105}, strings.Repeat("\x00", 12) + "\xc0\xa8\x01\x05"},
		{api.Addr{Hi: 0x20010db800000000, Lo: 5}, "\x20\x01\x0d\xb8" + strings.Repeat("\x00", 11) + "\x05"},
		{api.Addr{Hi: 0x0102030405060708, Lo: 0x090a0b0c0d0e0f10}, rising(16)},
		{api.Addr{Hi: math.MaxUint64}, strings.Repeat("\xff", 8) + strings.Repeat("\x00", 8)},
		{api.Addr{Lo: math.MaxUint64}, strings.Repeat("\x00", 8) + strings.Repeat("\xff", 8)},
		{api.Addr{Hi: math.MaxUint64, Lo: math.MaxUint64}, strings.Repeat("\xff", 16)},
	} {
		if got := PutAddr(c.a); got != c.want {
			t.Errorf("PutAddr(%x) is %x", c.a, got)
		}
		if got, ok := GetAddr("ab"+c.want+"c", 2); got != c.a || !ok {
			t.Errorf("GetAddr(%x) is %x, %v", c.want, got, ok)
		}
	}
}

func TestAddrComesBack(t *testing.T) {
	random := chance()
	for range 5000 {
		a := api.Addr{Hi: random.Uint64(), Lo: random.Uint64()}
		s := PutAddr(a)
		if want := Put64(a.Hi) + Put64(a.Lo); s != want {
			t.Fatalf("PutAddr(%x) is %x", a, s)
		}
		before := noise(random.Intn(5), random)
		if got, ok := GetAddr(before+s+noise(random.Intn(5), random), len(before)); got != a || !ok {
			t.Fatalf("%x comes back as %x, %v", a, got, ok)
		}
	}
}

// P4.3

func TestCutExamples(t *testing.T) {
	for _, c := range []struct {
		s    string
		at   int
		n    int
		want string
		ok   bool
	}{
		{"abcd", 0, 4, "abcd", true},
		{"abcd", 1, 2, "bc", true},
		{"abcd", 3, 1, "d", true},
		{"abcd", 2, 0, "", true},
		{"abcd", 4, 0, "", true},
		{"", 0, 0, "", true},
		{"", 0, 1, "", false},
		{"abcd", 0, 5, "", false},
		{"abcd", 3, 2, "", false},
		{"abcd", 4, 1, "", false},
		{"abcd", 5, 0, "", false},
		{"abcd", -1, 2, "", false},
		{"abcd", -1, 0, "", false},
		{"abcd", 2, -1, "", false},
		{"abcd", 5, -1, "", false},
		{"abcd", 9, -5, "", false},
		{"\x00\xff\x00", 1, 2, "\xff\x00", true},
	} {
		if got, ok := Cut(c.s, c.at, c.n); got != c.want || ok != c.ok {
			t.Errorf("Cut(%q, %d, %d) is %q, %v", c.s, c.at, c.n, got, ok)
		}
	}
}

func TestCutAtEachPlace(t *testing.T) {
	for length := range 12 {
		s := rising(length)
		for at := -14; at <= 14; at++ {
			for n := -14; n <= 14; n++ {
				want, wantOk := "", at >= 0 && n >= 0 && at+n <= length
				if wantOk {
					want = s[at : at+n]
				}
				if got, ok := Cut(s, at, n); got != want || ok != wantOk {
					t.Fatalf("Cut(%x, %d, %d) is %x, %v", s, at, n, got, ok)
				}
			}
		}
	}
}

func TestCutOfNoPlace(t *testing.T) {
	for _, s := range []string{"", "a", "abc", rising(100)} {
		for _, end := range ends() {
			for n := -2; n <= 102; n++ {
				checkNoCut(t, s, end, n)
				checkNoCut(t, s, n, end)
			}
			for _, other := range ends() {
				checkNoCut(t, s, end, other)
			}
		}
	}
}

func checkNoCut(t *testing.T, s string, at int, n int) {
	t.Helper()
	if got, ok := Cut(s, at, n); got != "" || ok {
		t.Fatalf("Cut(%x, %d, %d) is %x, %v", s, at, n, got, ok)
	}
}

// P4.4

func TestRunExamples(t *testing.T) {
	for _, c := range []struct {
		s    string
		want string
	}{
		{"", "\x00\x00"},
		{"ab", "\x00\x02ab"},
		{"\x00", "\x00\x01\x00"},
		{"\x00\x02", "\x00\x02\x00\x02"},
		{"\xff\xfe\xfd", "\x00\x03\xff\xfe\xfd"},
		{strings.Repeat("a", 255), "\x00\xff" + strings.Repeat("a", 255)},
		{strings.Repeat("a", 256), "\x01\x00" + strings.Repeat("a", 256)},
		{strings.Repeat("a", 258), "\x01\x02" + strings.Repeat("a", 258)},
		{strings.Repeat("a", 0x8000), "\x80\x00" + strings.Repeat("a", 0x8000)},
		{strings.Repeat("a", 65534), "\xff\xfe" + strings.Repeat("a", 65534)},
		{strings.Repeat("a", 65535), "\xff\xff" + strings.Repeat("a", 65535)},
	} {
		if got, ok := Run(c.s); got != c.want || !ok {
			t.Errorf("Run of %d bytes is %d, %v", len(c.s), len(got), ok)
		}
	}
}

func TestRunTooLong(t *testing.T) {
	for _, n := range []int{65536, 65537, 65538, 1 << 17, 1<<17 + 2, 1<<20 + 5} {
		if got, ok := Run(strings.Repeat("a", n)); got != "" || ok {
			t.Errorf("Run of %d bytes is %d, %v", n, len(got), ok)
		}
	}
}

func TestTakeRunExamples(t *testing.T) {
	for _, c := range []struct {
		s    string
		at   int
		want string
		next int
		ok   bool
	}{
		{"\x09\x00\x02abc", 1, "ab", 5, true},
		{"\x00\x02ab", 0, "ab", 4, true},
		{"\x00\x00", 0, "", 2, true},
		{"abc\x00\x00", 3, "", 5, true},
		{"abc\x00\x00d", 3, "", 5, true},
		{"\x00\x03ab", 0, "", 0, false},
		{"\x00\x01", 0, "", 0, false},
		{"\x01\x00ab", 0, "", 0, false},
		{"\xff\xffab", 0, "", 0, false},
		{"", 0, "", 0, false},
		{"\x00", 0, "", 0, false},
		{"\x00\x00", 1, "", 0, false},
		{"\x00\x00", 2, "", 0, false},
		{"\x00\x00", 3, "", 0, false},
		{"\x00\x00", -1, "", 0, false},
		{"\x00\x00\x00", -1, "", 0, false},
	} {
		if got, next, ok := TakeRun(c.s, c.at); got != c.want || next != c.next || ok != c.ok {
			t.Errorf("TakeRun(%q, %d) is %q, %d, %v", c.s, c.at, got, next, ok)
		}
	}
}

func TestRunsComeBack(t *testing.T) {
	random := chance()
	for _, n := range []int{0, 1, 2, 3, 127, 128, 254, 255, 256, 257, 511, 512, 40000, 65534, 65535} {
		s := noise(n, random)
		run, _ := Run(s)
		if got, next, ok := TakeRun(run, 0); got != s || next != n+2 || !ok {
			t.Errorf("%d bytes come back as %d, up to %d, %v", n, len(got), next, ok)
		}
		if got, next, ok := TakeRun("abc"+run+"d", 3); got != s || next != n+5 || !ok {
			t.Errorf("%d bytes among others come back as %d, up to %d, %v", n, len(got), next, ok)
		}
		for _, short := range []int{n + 1, n, n / 2, 1, 0} {
			if short >= len(run) {
				continue
			}
			if got, next, ok := TakeRun(run[:short], 0); got != "" || next != 0 || ok {
				t.Errorf("%d of %d bytes come back as %d, up to %d, %v", short, len(run), len(got), next, ok)
			}
		}
	}
}

// Runs that stand one behind the other are taken one by one.
func TestTakeRunRow(t *testing.T) {
	random := chance()
	for range 200 {
		var parts []string
		all := ""
		for range random.Intn(6) {
			part := noise(random.Intn(400), random)
			run, _ := Run(part)
			parts, all = append(parts, part), all+run
		}
		at := 0
		for _, part := range parts {
			got, next, ok := TakeRun(all, at)
			if got != part || next != at+2+len(part) || !ok {
				t.Fatalf("at %d of %d: %d bytes, up to %d, %v", at, len(all), len(got), next, ok)
			}
			at = next
		}
		if got, next, ok := TakeRun(all, at); at != len(all) || got != "" || next != 0 || ok {
			t.Fatalf("behind the last run, at %d of %d: %q, %d, %v", at, len(all), got, next, ok)
		}
	}
}

// All rows of six bytes of 0 to 3, each of which may be a length's or a run's.
func TestTakeRunAtEachPlace(t *testing.T) {
	for code := range 1 << 12 {
		var list []byte
		for i := range 6 {
			list = append(list, byte(code>>(2*i)&3))
		}
		s := string(list)
		for at := -3; at <= 9; at++ {
			want, wantNext, wantOk := "", 0, false
			if at >= 0 && at+2 <= len(s) {
				if end := at + 2 + int(s[at])<<8 + int(s[at+1]); end <= len(s) {
					want, wantNext, wantOk = s[at+2:end], end, true
				}
			}
			if got, next, ok := TakeRun(s, at); got != want || next != wantNext || ok != wantOk {
				t.Fatalf("TakeRun(%x, %d) is %x, %d, %v", s, at, got, next, ok)
			}
		}
	}
}

func TestTakeRunAtNoPlace(t *testing.T) {
	for _, s := range []string{"", "\x00", "\x00\x00", "\x00\x02ab", strings.Repeat("\x00", 100)} {
		for _, at := range ends() {
			if got, next, ok := TakeRun(s, at); got != "" || next != 0 || ok {
				t.Errorf("TakeRun(%x, %d) is %x, %d, %v", s, at, got, next, ok)
			}
		}
	}
}

// P4.5

func TestPadExamples(t *testing.T) {
	for _, c := range []struct {
		s    string
		n    int
		want string
		ok   bool
	}{
		{"ab", 4, "ab\x00\x00", true},
		{"ab", 3, "ab\x00", true},
		{"ab", 2, "ab", true},
		{"ab", 1, "", false},
		{"ab", 0, "", false},
		{"ab", -1, "", false},
		{"ab", -2, "", false},
		{"", 0, "", true},
		{"", 3, "\x00\x00\x00", true},
		{"", -1, "", false},
		{"a\x00", 4, "a\x00\x00\x00", true},
		{"a\x00", 1, "", false},
		{"\x00\xff", 3, "\x00\xff\x00", true},
		{"", math.MinInt, "", false},
		{"ab", math.MinInt, "", false},
	} {
		if got, ok := Pad(c.s, c.n); got != c.want || ok != c.ok {
			t.Errorf("Pad(%q, %d) is %q, %v", c.s, c.n, got, ok)
		}
	}
}

func TestPadToEachLength(t *testing.T) {
	random := chance()
	for length := range 20 {
		s := noise(length, random)
		for n := -5; n <= 300; n++ {
			want, wantOk := "", n >= length
			if wantOk {
				list := make([]byte, n)
				copy(list, s)
				want = string(list)
			}
			if got, ok := Pad(s, n); got != want || ok != wantOk {
				t.Fatalf("Pad(%x, %d) is %x, %v", s, n, got, ok)
			}
		}
	}
	long := noise(1<<16, random)
	if got, ok := Pad(long, 1<<20); !ok || len(got) != 1<<20 || got[:len(long)] != long || strings.Trim(got[len(long):], "\x00") != "" {
		t.Errorf("Pad of %d bytes is %d, %v", len(long), len(got), ok)
	}
}

// Of so many bytes nothing is promised but that the call ends.
func TestPadEndsOfTheType(t *testing.T) {
	for _, s := range []string{"", "ab"} {
		for _, n := range []int{1 << 31, 1 << 40, 1 << 62, math.MaxInt - 1, math.MaxInt} {
			if got, ok := Pad(s, n); got != "" || ok {
				t.Errorf("Pad(%q, %d) is %d bytes, %v", s, n, len(got), ok)
			}
		}
	}
}
