package opt6

import (
	"encoding/binary"
	"encoding/hex"
	"math"
	"slices"
	"strings"
	"testing"

	"tenancy/api"
)

// raw is the bytes that hexadecimal digits tell; spaces part them.
func raw(text string) string {
	list, err := hex.DecodeString(strings.ReplaceAll(text, " ", ""))
	if err != nil {
		panic(err)
	}
	return string(list)
}

func opt(code uint16, data string) api.Opt6 { return api.Opt6{Code: code, Data: data} }

func opts(list ...api.Opt6) []api.Opt6 { return list }

func nulls(n int) string { return strings.Repeat("\x00", n) }

// rising is n bytes, no two neighbours of which are the same.
func rising(n int) string {
	list := make([]byte, n)
	for i := range list {
		list[i] = byte(i - 1)
	}
	return string(list)
}

func num16(n int) string { return string(binary.BigEndian.AppendUint16(nil, uint16(n))) }

func num32(n uint32) string { return string(binary.BigEndian.AppendUint32(nil, n)) }

// inBytes is an option's bytes; those of data that are too long mean nothing.
func inBytes(code uint16, data string) string { return num16(int(code)) + num16(len(data)) + data }

func bytesOf(list []api.Opt6) string {
	var s strings.Builder
	for _, o := range list {
		s.WriteString(inBytes(o.Code, o.Data))
	}
	return s.String()
}

// some are n options with some codes, of which many are the same, and little data.
func some(n int) []api.Opt6 {
	var list []api.Opt6
	for i := range n {
		list = append(list, opt(uint16(997*i%50), rising(i%5)))
	}
	return list
}

// parses fails unless Parse of the bytes is the list, and Emit of that the bytes.
func parses(t *testing.T, what string, s string, want []api.Opt6) {
	t.Helper()
	if list, err := Parse(s); err != api.OK || !slices.Equal(list, want) {
		t.Errorf("Parse of %s is %d options, %d", what, len(list), err)
	}
	if again, err := Emit(want); err != api.OK || again != s {
		t.Errorf("Emit of %s is %d bytes, %d", what, len(again), err)
	}
}

// parsesNot fails unless Parse of the bytes answers just an error.
func parsesNot(t *testing.T, what string, s string, want api.Errno) {
	t.Helper()
	if list, err := Parse(s); err != want || len(list) > 0 {
		t.Errorf("Parse of %s is %d options, %d, not %d", what, len(list), err, want)
	}
}

func emitsNot(t *testing.T, what string, want api.Errno, list ...api.Opt6) {
	t.Helper()
	if s, err := Emit(list); err != want || s != "" {
		t.Errorf("Emit of %s is %d bytes, %d, not %d", what, len(s), err, want)
	}
}

func same(a, b api.IA) bool {
	return a.Kind == b.Kind && a.Iaid == b.Iaid && a.T1 == b.T1 && a.T2 == b.T2 && a.Code == b.Code && slices.Equal(a.Has, b.Has)
}

// puts fails unless a is an identity association, and its option this one, which
// is read as the same.
func puts(t *testing.T, what string, a api.IA, want api.Opt6) {
	t.Helper()
	if !Sound(a) {
		t.Errorf("%s isn't sound", what)
	}
	if o, err := PutIA(a); err != api.OK || o != want {
		t.Errorf("PutIA of %s is %d: %x, %d, not %d: %x", what, o.Code, o.Data, err, want.Code, want.Data)
	}
	gets(t, what, want, a)
}

// putsNot fails unless a is none.
func putsNot(t *testing.T, what string, a api.IA) {
	t.Helper()
	if Sound(a) {
		t.Errorf("%s is sound", what)
	}
	if o, err := PutIA(a); err != api.ErrOption || o != opt(0, "") {
		t.Errorf("PutIA of %s is %d: %x, %d", what, o.Code, o.Data, err)
	}
}

// gets fails unless GetIA of an option is the identity association, which is sound.
func gets(t *testing.T, what string, o api.Opt6, want api.IA) {
	t.Helper()
	a, err := GetIA(o)
	if err != api.OK || !same(a, want) {
		t.Errorf("GetIA of %s is %v, %d, not %v", what, a, err, want)
	}
	if !Sound(a) {
		t.Errorf("what GetIA of %s gives isn't sound", what)
	}
}

// getsNot fails unless GetIA answers just an error.
func getsNot(t *testing.T, what string, o api.Opt6, want api.Errno) {
	t.Helper()
	if a, err := GetIA(o); err != want || !same(a, api.IA{}) {
		t.Errorf("GetIA of %s is %v, %d, not %d", what, a, err, want)
	}
}

// The things of which a lease is; site is a prefix whose bytes are told.
var (
	ends = api.Addr{Hi: math.MaxUint64, Lo: math.MaxUint64}
	here = api.Addr{Hi: 0x20010db800010002, Lo: 0x0003000400050006}
	site = api.Prefix{Addr: api.Addr{Hi: 0x20010db800010000}, Bits: 50}
)

var hereBytes = raw("20010db800010002 0003000400050006")

func one(a api.Addr) api.Prefix { return api.Prefix{Addr: a, Bits: 128} }

// has is what has no status.
func has(what api.Prefix, pref, valid uint32) api.Inner {
	return api.Inner{What: what, Pref: pref, Valid: valid, Code: -1}
}

// ia is one without T1, T2 and a status.
func ia(kind int, iaid uint32, list ...api.Inner) api.IA {
	return api.IA{Kind: kind, Iaid: iaid, Has: list, Code: -1}
}

// The code of each kind's option, how many bytes stand ahead of the options within
// it, the code of what it has, how many bytes stand ahead of the options there, and
// the code of what only other kinds have.
var shapes = []struct {
	kind   int
	code   uint16
	head   int
	within uint16
	ahead  int
	other  uint16
}{
	{api.NonT, 3, 12, 5, 24, 26},
	{api.Temp, 4, 4, 5, 24, 26},
	{api.Deleg, 25, 12, 26, 25, 5},
}

// The chapter's examples

func TestExamples(t *testing.T) {
	parses(t, "an option", raw("00 08 00 02 00 00"), opts(opt(8, "\x00\x00")))
	parsesNot(t, "half a length", raw("00 08 00"), api.ErrShort)
	puts(t, "NonT", api.IA{Kind: api.NonT, Iaid: 1, Code: 2}, opt(3, raw("00000001 00000000 00000000 000d 0002 0002")))
	puts(t, "Temp", api.IA{Kind: api.Temp, Iaid: 1, Code: -1}, opt(4, raw("00000001")))
	gets(t, "Deleg", opt(25, nulls(12)+raw("001a 0019")+nulls(25)), ia(api.Deleg, 0, has(api.Prefix{}, 0, 0)))
	getsNot(t, "Bits 129", opt(25, nulls(12)+raw("001a 0019")+nulls(8)+"\x81"+nulls(16)), api.ErrOption)
	getsNot(t, "the option 13", opt(13, nulls(12)+raw("001a 0019")+nulls(25)), api.ErrOption)
}

// P15.1

func TestParseAndEmit(t *testing.T) {
	parses(t, "nothing", "", nil)
	for i, c := range []struct {
		s    string
		want []api.Opt6
	}{
		{"0000 0000", opts(opt(0, ""))},
		{"ffff 0000", opts(opt(65535, ""))},
		{"0001 0001 61", opts(opt(1, "a"))},
		{"0100 0001 61", opts(opt(256, "a"))},
		{"0102 0003 616263", opts(opt(258, "abc"))},
		{"0000 0000 0000 0000", opts(opt(0, ""), opt(0, ""))},
		{"0000 0004 00000000", opts(opt(0, "\x00\x00\x00\x00"))},
		{"0001 0004 00010000", opts(opt(1, "\x00\x01\x00\x00"))},
		{"0001 0000 0001 0000", opts(opt(1, ""), opt(1, ""))},
		// in their order, those of one code apart
		{"0003 0001 61 0001 0000 0002 0002 6263", opts(opt(3, "a"), opt(1, ""), opt(2, "bc"))},
		{"0001 0001 61 0001 0001 62", opts(opt(1, "a"), opt(1, "b"))},
		{"0001 0001 62 0002 0000 0001 0001 61", opts(opt(1, "b"), opt(2, ""), opt(1, "a"))},
		{"ffff 0002 ffff 00ff 0001 ff", opts(opt(65535, "\xff\xff"), opt(255, "\xff"))},
		// options within options are data
		{"0003 0010 00000001 00000000 00000000 000d 0000 0002 0000", opts(opt(3, raw("00000001 00000000 00000000 000d 0000")), opt(2, ""))},
	} {
		s := raw(c.s)
		if list, err := Parse(s); err != api.OK || !slices.Equal(list, c.want) {
			t.Errorf("row %d: Parse(%x) is %x, %d", i, s, list, err)
		}
		if again, err := Emit(c.want); err != api.OK || again != s {
			t.Errorf("row %d: Emit(%x) is %x, %d", i, c.want, again, err)
		}
	}
}

func TestEachCode(t *testing.T) {
	for code := range 1 << 16 {
		parses(t, "each code", string([]byte{byte(code >> 8), byte(code), 0, 2})+"ab", opts(opt(uint16(code), "ab")))
	}
}

func TestEachLength(t *testing.T) {
	for _, n := range []int{65280, 65534, 65535, 32767, 32768} {
		data := rising(n)
		parses(t, "long data", inBytes(7, data), opts(opt(7, data)))
		parses(t, "long data between others", inBytes(1, "a")+inBytes(7, data)+inBytes(7, ""), opts(opt(1, "a"), opt(7, data), opt(7, "")))
		parsesNot(t, "long data without a byte", inBytes(7, data)[:n+3], api.ErrShort)
		parsesNot(t, "long data and a byte", inBytes(7, data)+"\x00", api.ErrShort)
	}
	for n := range 1000 {
		data := rising(n)
		parses(t, "each length", string([]byte{0, 7, byte(n >> 8), byte(n)})+data, opts(opt(7, data)))
		parses(t, "each length between others", inBytes(1, "a")+inBytes(7, data)+inBytes(7, "b"), opts(opt(1, "a"), opt(7, data), opt(7, "b")))
	}
}

func TestParseOfWhatIsNotWhole(t *testing.T) {
	for i, text := range []string{
		"00", "ff", "0001", "000100", "00010001", "0001ffff", "0001000261", "000101 0061",
		"0001 0000 00", "0001 0000 0001", "0001 0000 0001 00", "0001 0001 61 0001 0001",
		"0001 0001 0001 0000", "0001 0005 0001 0000",
	} {
		if list, err := Parse(raw(text)); err != api.ErrShort || len(list) > 0 {
			t.Errorf("row %d: Parse is %x, %d", i, list, err)
		}
	}
	for n := range 300 {
		whole := inBytes(uint16(n), rising(n))
		for cut := 1; cut < len(whole); cut++ {
			parsesNot(t, "a part", whole[:cut], api.ErrShort)
			parsesNot(t, "a part behind a whole one", whole+whole[:cut], api.ErrShort)
		}
	}
}

func TestManyOptions(t *testing.T) {
	list := some(300)
	for _, n := range []int{1, 2, 100, 127, 128} {
		parses(t, "as many as may be", bytesOf(list[:n]), list[:n])
		parses(t, "as many as may be of one code", strings.Repeat(inBytes(9, "a"), n), slices.Repeat(opts(opt(9, "a")), n))
		parses(t, "as many as may be without data", nulls(4*n), make([]api.Opt6, n))
	}
	for _, n := range []int{129, 130, 200, 300} {
		parsesNot(t, "too many", bytesOf(list[:n]), api.ErrLong)
		parsesNot(t, "too many of one code", strings.Repeat(inBytes(9, "a"), n), api.ErrLong)
		parsesNot(t, "too many without data", nulls(4*n), api.ErrLong)
		emitsNot(t, "too many", api.ErrLong, list[:n]...)
		emitsNot(t, "too many without data", api.ErrLong, make([]api.Opt6, n)...)
	}
	most := slices.Clone(list[:128])
	for i := range most {
		most[i].Data = rising(65535)
	}
	parses(t, "the most", bytesOf(most), most)
	parsesNot(t, "the most and one", bytesOf(most)+inBytes(1, ""), api.ErrLong)
	parsesNot(t, "very many bytes", strings.Repeat(bytesOf(list[:128]), 1<<12), api.ErrLong)
	parsesNot(t, "very many bytes 0", nulls(1<<24), api.ErrLong)
	emitsNot(t, "very many", api.ErrLong, make([]api.Opt6, 1<<16)...)
}

// Of the faults the first option's is told; of one's two ErrShort.
func TestParseTellsTheFirstFault(t *testing.T) {
	full := bytesOf(some(128))
	next := inBytes(1, "ab")
	for cut := 1; cut < len(next); cut++ {
		parsesNot(t, "one too many that isn't whole", full+next[:cut], api.ErrShort)
		parsesNot(t, "one too many ahead of one that isn't whole", full+next+next[:cut], api.ErrLong)
		parsesNot(t, "the last one that may be isn't whole", bytesOf(some(127))+next[:cut], api.ErrShort)
	}
	parsesNot(t, "the first one has all the others", "\x00\x01\xff\xff"+full, api.ErrShort)
}

func TestEmitOfWrongOptions(t *testing.T) {
	for _, n := range []int{65536, 65537, 65538, 1 << 17, 1<<17 + 1, 1 << 24} {
		wrong := opt(7, nulls(n))
		right := some(127)
		emitsNot(t, "too long data", api.ErrOption, wrong)
		for _, at := range []int{0, 1, 60, 126, 127} {
			emitsNot(t, "too long data among others", api.ErrOption, slices.Insert(slices.Clone(right), at, wrong)...)
		}
		emitsNot(t, "two with too long data", api.ErrOption, wrong, wrong)
		emitsNot(t, "too many with too long data", api.ErrLong, slices.Repeat(opts(wrong), 129)...)
		emitsNot(t, "too many, the first one with too long data", api.ErrLong, append(opts(wrong), some(128)...)...)
	}
}

// P15.2

// Codes of a status, or of none, and others.
var (
	rightCodes = []int{-1, 0, 1, 2, 12, 13, 255, 256, 257, 32767, 32768, 65534, 65535}
	wrongCodes = []int{math.MinInt, -1 << 32, -65536, -65535, -256, -3, -2, 65536, 65537, 65549, 1 << 17, 1<<32 - 1, 1 << 32, 1<<32 + 2, math.MaxInt}
)

// statusBytes is the option of a status, in bytes.
func statusBytes(code int) string {
	if code == -1 {
		return ""
	}
	return "\x00\x0d\x00\x02" + num16(code)
}

func TestPutIA(t *testing.T) {
	two := []api.Inner{has(one(here), 0x01020304, 0x05060708), {What: one(ends), Pref: 0xffffffff, Valid: 0x80000000, Code: 0x0102}}
	twoBytes := "0005 0018 20010db800010002 0003000400050006 01020304 05060708" +
		"0005 001e ffffffffffffffff ffffffffffffffff ffffffff 80000000 000d 0002 0102"
	puts(t, "NonT", api.IA{Kind: api.NonT, Iaid: 0x11121314, T1: 0x21222324, T2: 0x31323334, Has: two, Code: 0xfffe},
		opt(3, raw("11121314 21222324 31323334"+twoBytes+"000d 0002 fffe")))
	puts(t, "Temp", api.IA{Kind: api.Temp, Iaid: 0x11121314, Has: two, Code: 0xfffe}, opt(4, raw("11121314"+twoBytes+"000d 0002 fffe")))
	puts(t, "Deleg", api.IA{Kind: api.Deleg, Iaid: 0x11121314, T1: 0x21222324, T2: 0x31323334, Code: 0, Has: []api.Inner{
		{What: site, Pref: 0x01020304, Valid: 0x05060708, Code: 6}, has(one(here), 9, 10), has(api.Prefix{}, 1, 2),
	}}, opt(25, raw("11121314 21222324 31323334"+
		"001a 001f 01020304 05060708 32 20010db800010000 0000000000000000 000d 0002 0006"+
		"001a 0019 00000009 0000000a 80 20010db800010002 0003000400050006"+
		"001a 0019 00000001 00000002 00 0000000000000000 0000000000000000"+
		"000d 0002 0000")))
	for _, s := range shapes {
		puts(t, "nothing", ia(s.kind, 0), opt(s.code, nulls(s.head)))
		puts(t, "the greatest Iaid", ia(s.kind, math.MaxUint32), opt(s.code, "\xff\xff\xff\xff"+nulls(s.head-4)))
	}
}

func TestSoundKinds(t *testing.T) {
	right := []int{api.NonT, api.Temp, api.Deleg}
	for kind := -300; kind <= 66000; kind++ {
		if !slices.Contains(right, kind) {
			putsNot(t, "no kind", ia(kind, 1))
		}
	}
	for _, kind := range right {
		for _, far := range []int{1 << 8, 1 << 16, 1 << 32, -1 << 32, math.MinInt} {
			putsNot(t, "a kind beyond", ia(kind+far, 1))
			putsNot(t, "a kind beyond, with an address", ia(kind+far, 1, has(one(here), 1, 2)))
		}
	}
	for _, kind := range []int{math.MinInt, math.MaxInt, 1 << 62} {
		putsNot(t, "no kind", ia(kind, 1))
	}
}

func TestSoundCodes(t *testing.T) {
	for _, s := range shapes {
		for _, code := range rightCodes {
			a := ia(s.kind, 0, has(one(here), 1, 2))
			a.Code = code
			if !Sound(a) {
				t.Errorf("the Code %d isn't sound", code)
			}
			o, err := PutIA(a)
			if err != api.OK || !strings.HasSuffix(o.Data, nulls(3)+"\x02"+statusBytes(code)) && s.kind != api.Deleg {
				t.Errorf("the Code %d is %x, %d", code, o.Data, err)
			}
			gets(t, "a Code", o, a)
			a.Code, a.Has[0].Code = -1, code
			if o, err = PutIA(a); err != api.OK || !strings.HasSuffix(o.Data, statusBytes(code)) {
				t.Errorf("the Code %d within is %x, %d", code, o.Data, err)
			}
			gets(t, "a Code within", o, a)
		}
		for _, code := range wrongCodes {
			a := ia(s.kind, 0, has(one(here), 1, 2), has(one(ends), 1, 2))
			a.Code = code
			putsNot(t, "a wrong Code", a)
			for i := range a.Has {
				a = ia(s.kind, 0, has(one(here), 1, 2), has(one(ends), 1, 2))
				a.Has[i].Code = code
				putsNot(t, "a wrong Code within", a)
			}
		}
	}
}

func TestSoundTimes(t *testing.T) {
	for _, n := range []uint32{1, 2, 1 << 31, math.MaxUint32} {
		putsNot(t, "Temp with T1", api.IA{Kind: api.Temp, T1: n, Code: -1})
		putsNot(t, "Temp with T2", api.IA{Kind: api.Temp, T2: n, Code: -1})
		putsNot(t, "Temp with both", api.IA{Kind: api.Temp, T1: n, T2: n, Code: -1})
		for _, kind := range []int{api.NonT, api.Deleg} {
			code := uint16(3 + 22*(kind/api.Deleg))
			puts(t, "T1", api.IA{Kind: kind, T1: n, Code: -1}, opt(code, nulls(4)+num32(n)+nulls(4)))
			puts(t, "T2", api.IA{Kind: kind, T2: n, Code: -1}, opt(code, nulls(8)+num32(n)))
		}
	}
}

func TestSoundHowMany(t *testing.T) {
	for _, s := range shapes {
		for n := range 20 {
			a := ia(s.kind, 5)
			data := num32(5) + nulls(s.head-4)
			for i := range n {
				in := has(one(api.Addr{Hi: 7, Lo: uint64(i)}), uint32(i), uint32(2*i))
				place := nulls(7) + "\x07" + nulls(7) + string([]byte{byte(i)})
				within := place + num32(in.Pref) + num32(in.Valid)
				if s.kind == api.Deleg {
					within = num32(in.Pref) + num32(in.Valid) + "\x80" + place
				}
				a.Has = append(a.Has, in)
				data += inBytes(s.within, within)
			}
			if n <= 8 {
				puts(t, "as many as may be", a, opt(s.code, data))
			} else {
				putsNot(t, "too many", a)
				getsNot(t, "too many", opt(s.code, data), api.ErrLong)
			}
		}
		putsNot(t, "very many", api.IA{Kind: s.kind, Has: slices.Repeat([]api.Inner{has(one(here), 1, 2)}, 1<<16), Code: -1})
		same := slices.Repeat([]api.Inner{has(one(here), 1, 2)}, 8)
		if !Sound(ia(s.kind, 1, same...)) {
			t.Error("eight times the same isn't sound")
		}
	}
}

func TestSoundPrefixes(t *testing.T) {
	odd := api.Addr{Hi: 0x8000000000000000, Lo: 1}
	for bits := -300; bits <= 300; bits++ {
		zero, some := api.Prefix{Bits: bits}, api.Prefix{Addr: odd, Bits: bits}
		for _, s := range shapes {
			checkSound(t, s.kind, zero, bits == 128 || s.kind == api.Deleg && bits >= 0 && bits <= 128)
			checkSound(t, s.kind, some, bits == 128)
		}
	}
	for _, bits := range []int{math.MinInt, math.MinInt + 128, -1 << 32, 1<<32 + 128, 1 << 62, math.MaxInt} {
		for _, s := range shapes {
			checkSound(t, s.kind, api.Prefix{Bits: bits}, false)
			checkSound(t, s.kind, api.Prefix{Addr: here, Bits: bits}, false)
		}
	}
	for n := range 129 {
		low := api.Addr{Hi: math.MaxUint64, Lo: math.MaxUint64}
		if n <= 64 {
			low = api.Addr{Hi: ^uint64(0) << (64 - n)}
		} else {
			low.Lo <<= 128 - n
		}
		checkSound(t, api.Deleg, api.Prefix{Addr: low, Bits: n}, true)
		if n > 0 {
			checkSound(t, api.Deleg, api.Prefix{Addr: low, Bits: n - 1}, false)
		}
		checkSound(t, api.NonT, api.Prefix{Addr: low, Bits: n}, n == 128)
		checkSound(t, api.Temp, api.Prefix{Addr: low, Bits: n}, n == 128)
	}
}

// checkSound fails unless what can stand just if it is right, at each place.
func checkSound(t *testing.T, kind int, what api.Prefix, right bool) {
	t.Helper()
	for at := range 3 {
		a := ia(kind, 1, has(one(here), 1, 2), has(one(ends), 3, 4), has(one(api.Addr{}), 5, 6))
		a.Has[at].What = what
		if !right {
			putsNot(t, "a wrong prefix", a)
			continue
		}
		o, err := PutIA(a)
		if err != api.OK || !Sound(a) {
			t.Errorf("PutIA of %v in %d is %d", what, kind, err)
		}
		gets(t, "a prefix", o, a)
	}
}

// P15.3

func TestGetIAOfEachCode(t *testing.T) {
	for code := range 1 << 16 {
		o := opt(uint16(code), nulls(12))
		switch code {
		case 3:
			gets(t, "NonT", o, ia(api.NonT, 0))
		case 4:
			// Two options of the code 0 stand within it.
			gets(t, "Temp", o, ia(api.Temp, 0))
		case 25:
			gets(t, "Deleg", o, ia(api.Deleg, 0))
		default:
			getsNot(t, "another code", o, api.ErrOption)
			getsNot(t, "another code without data", opt(uint16(code), ""), api.ErrOption)
		}
	}
}

func TestGetIAOfShortData(t *testing.T) {
	for _, s := range shapes {
		head := rising(s.head)
		for n := range s.head {
			getsNot(t, "a part of the head", opt(s.code, head[:n]), api.ErrShort)
		}
		if a, err := GetIA(opt(s.code, head)); err != api.OK || a.Kind != s.kind || a.Code != -1 || len(a.Has) != 0 {
			t.Errorf("GetIA of a head is %v, %d", a, err)
		}
		for n := 1; n < 4; n++ {
			getsNot(t, "a part of an option", opt(s.code, head+nulls(n)), api.ErrShort)
		}
		within := rising(s.ahead)
		if s.kind == api.Deleg {
			within = nulls(s.ahead)
		}
		for n := range s.ahead {
			getsNot(t, "a part of what it has", opt(s.code, head+inBytes(s.within, within[:n])), api.ErrShort)
			getsNot(t, "a part of what it has behind a whole one", opt(s.code, head+inBytes(s.within, within)+inBytes(s.within, within[:n])), api.ErrShort)
		}
		for n := 1; n < 4; n++ {
			getsNot(t, "a part of an option within", opt(s.code, head+inBytes(s.within, within+nulls(n))), api.ErrShort)
			getsNot(t, "a part of an option within the second one", opt(s.code, head+inBytes(s.within, within)+inBytes(s.within, within+nulls(n))), api.ErrShort)
		}
	}
}

// The fields, each byte of them alone.
func TestGetIAOfEachByte(t *testing.T) {
	for at := range 12 {
		for b := range 256 {
			head := []byte(nulls(12))
			head[at] = byte(b)
			n := uint32(b) << (8 * (3 - at%4))
			want := api.IA{Code: -1}
			*[]*uint32{&want.Iaid, &want.T1, &want.T2}[at/4] = n
			for _, s := range shapes {
				want.Kind = s.kind
				if s.kind != api.Temp {
					gets(t, "a byte of the head", opt(s.code, string(head)), want)
				} else if at < 4 {
					gets(t, "a byte of the head", opt(s.code, string(head[:4])), want)
				}
			}
		}
	}
	for at := range 24 {
		for b := range 256 {
			data := []byte(nulls(24))
			data[at] = byte(b)
			in := has(api.Prefix{Bits: 128}, binary.BigEndian.Uint32(data[16:]), binary.BigEndian.Uint32(data[20:]))
			in.What.Addr = api.Addr{Hi: binary.BigEndian.Uint64(data), Lo: binary.BigEndian.Uint64(data[8:])}
			gets(t, "a byte of an address", opt(3, nulls(12)+inBytes(5, string(data))), ia(api.NonT, 0, in))
			gets(t, "a byte of an address", opt(4, nulls(4)+inBytes(5, string(data))), ia(api.Temp, 0, in))
			data = slices.Concat(data[16:], []byte{128}, data[:16])
			gets(t, "a byte of a prefix", opt(25, nulls(12)+inBytes(26, string(data))), ia(api.Deleg, 0, in))
		}
	}
}

func TestGetIAOfPrefixes(t *testing.T) {
	for bits := range 256 {
		get := func(a string) api.Opt6 {
			return opt(25, nulls(12)+inBytes(26, nulls(8)+string([]byte{byte(bits)})+a))
		}
		for n := range 129 {
			// The first n bits are 1.
			place := make([]byte, 16)
			for i := range n {
				place[i/8] |= 0x80 >> (i % 8)
			}
			what := api.Prefix{Addr: api.Addr{Hi: binary.BigEndian.Uint64(place), Lo: binary.BigEndian.Uint64(place[8:])}, Bits: bits}
			if n <= bits && bits <= 128 {
				gets(t, "a prefix", get(string(place)), ia(api.Deleg, 0, has(what, 0, 0)))
			} else {
				getsNot(t, "no prefix", get(string(place)), api.ErrOption)
			}
		}
	}
}

// What is read, from the rows of an option within and what is to come of it.
func TestGetIAOfStatuses(t *testing.T) {
	for _, c := range []struct {
		s    string
		code int
		err  api.Errno
	}{
		{"", -1, api.OK},
		{"000d 0002 0000", 0, api.OK},
		{"000d 0002 0005", 5, api.OK},
		{"000d 0002 0102", 258, api.OK},
		{"000d 0002 ffff", 65535, api.OK},
		// a text behind the code
		{"000d 0003 000500", 5, api.OK},
		{"000d 0004 00056161", 5, api.OK},
		// no status
		{"000d 0000", 0, api.ErrOption},
		{"000d 0001 00", 0, api.ErrOption},
		// the first one's code is told
		{"000d 0002 0003 000d 0002 0004", 3, api.OK},
		{"000d 0002 0000 000d 0002 0004", 0, api.OK},
		{"000d 0002 ffff 000d 0002 0000 000d 0002 0001", 65535, api.OK},
		{"000d 0005 0003616263 000d 0002 0004", 3, api.OK},
		// the others must be statuses too
		{"000d 0002 0003 000d 0001 00", 0, api.ErrOption},
		{"000d 0000 000d 0002 0003", 0, api.ErrOption},
		{"000d 0002 0003 000d 0002 0004 000d 0000", 0, api.ErrOption},
		// other options aren't minded
		{"0000 0000", -1, api.OK},
		{"0001 0000 000d 0002 0005 0002 0001 61", 5, api.OK},
		{"000e 0001 00 000c 0001 00 010d 0001 00 0d00 0001 00", -1, api.OK},
		{"0003 0004 00000000 0004 0001 00 0019 0000", -1, api.OK},
		{"0008 0006 000d 0002 0005", -1, api.OK},
		{"0008 0006 000d 0001 0005", -1, api.OK},
		// options that can't be read
		{"000d 0002 0005 00", 0, api.ErrShort},
		{"000d 0003 0005", 0, api.ErrShort},
		{"000d 0001 05 000d", 0, api.ErrShort},
	} {
		for _, s := range shapes {
			want := ia(s.kind, 0)
			want.Code = c.code
			o := opt(s.code, nulls(s.head)+raw(c.s))
			within := has(api.Prefix{Bits: 128}, 0, 0)
			ahead := nulls(s.ahead)
			if s.kind == api.Deleg {
				within.What.Bits = 0
			}
			within.Code = c.code
			in := opt(s.code, nulls(s.head)+inBytes(s.within, ahead+raw(c.s))+statusBytes(7))
			if c.err != api.OK {
				getsNot(t, c.s, o, c.err)
				getsNot(t, c.s+" within", in, c.err)
				continue
			}
			gets(t, c.s, o, want)
			want = ia(s.kind, 0, within)
			want.Code = 7
			gets(t, c.s+" within", in, want)
		}
	}
}

// One of the code of what another kind has is like any other option, whatever it
// has; within what an identity association has, nothing but a status is minded.
func TestGetIAMindsNoOthers(t *testing.T) {
	for _, s := range shapes {
		in := has(api.Prefix{Bits: 128}, 0, 0)
		if s.kind == api.Deleg {
			in.What.Bits = 0
		}
		for n := range 40 {
			others := inBytes(s.other, "\xff"+nulls(n))
			gets(t, "what another kind has", opt(s.code, nulls(s.head)+others), ia(s.kind, 0))
			gets(t, "too much of what another kind has", opt(s.code, nulls(s.head)+strings.Repeat(others, 20)), ia(s.kind, 0))
			own := inBytes(s.within, nulls(s.ahead))
			gets(t, "what another kind has, too", opt(s.code, nulls(s.head)+others+own+others), ia(s.kind, 0, in))
			own = inBytes(s.within, nulls(s.ahead)+strings.Repeat(others, 3)+strings.Repeat(inBytes(s.within, nulls(n)), 20))
			gets(t, "what is held too deep", opt(s.code, nulls(s.head)+own), ia(s.kind, 0, in))
		}
	}
}

func TestGetIAOfManyOptions(t *testing.T) {
	for _, s := range shapes {
		in := has(api.Prefix{Bits: 128}, 0, 0)
		if s.kind == api.Deleg {
			in.What.Bits = 0
		}
		own := inBytes(s.within, nulls(s.ahead))
		eight := slices.Repeat([]api.Inner{in}, 8)
		gets(t, "as many options as may be", opt(s.code, nulls(s.head)+strings.Repeat("\x00\x01\x00\x00", 120)+strings.Repeat(own, 8)), ia(s.kind, 0, eight...))
		gets(t, "as many as may be, long ones", opt(s.code, nulls(s.head)+strings.Repeat(inBytes(99, nulls(65535)), 127)+own), ia(s.kind, 0, in))
		getsNot(t, "one more", opt(s.code, nulls(s.head)+strings.Repeat("\x00\x01\x00\x00", 121)+strings.Repeat(own, 8)), api.ErrLong)
		getsNot(t, "very many", opt(s.code, nulls(1<<22)), api.ErrLong)
		within := func(n int) api.Opt6 {
			return opt(s.code, nulls(s.head)+inBytes(s.within, nulls(s.ahead+4*n)))
		}
		gets(t, "as many within as may be", within(128), ia(s.kind, 0, in))
		getsNot(t, "one more within", within(129), api.ErrLong)
		getsNot(t, "many more within", within(10000), api.ErrLong)
	}
}

// The options' faults are told in their order, and ahead of all that of the head and
// of the options as such.
func TestGetIATellsTheFirstFault(t *testing.T) {
	for _, s := range shapes {
		good := inBytes(s.within, nulls(s.ahead))
		faults := []struct {
			s   string
			err api.Errno
		}{
			{inBytes(13, "\x00"), api.ErrOption},
			{inBytes(s.within, nulls(s.ahead-1)), api.ErrShort},
			{inBytes(s.within, nulls(s.ahead+1)), api.ErrShort},
			{inBytes(s.within, nulls(s.ahead+4*129)), api.ErrLong},
			{inBytes(s.within, nulls(s.ahead)+inBytes(13, "")), api.ErrOption},
			{inBytes(s.within, nulls(s.ahead)+inBytes(13, "ab")+inBytes(13, "a")), api.ErrOption},
			{inBytes(s.within, nulls(s.ahead)+inBytes(13, "")+"\x00"), api.ErrShort},
		}
		if s.kind == api.Deleg {
			faults = append(faults, struct {
				s   string
				err api.Errno
			}{inBytes(26, nulls(8)+"\xff"+nulls(16)+"\x00"), api.ErrOption})
		}
		head := nulls(s.head)
		for _, a := range faults {
			getsNot(t, "one fault", opt(s.code, head+a.s), a.err)
			getsNot(t, "a fault behind others", opt(s.code, head+statusBytes(1)+good+inBytes(99, "")+a.s), a.err)
			getsNot(t, "a fault and then a half option", opt(s.code, head+a.s+"\x00"), api.ErrShort)
			getsNot(t, "a fault and then too many options", opt(s.code, head+a.s+nulls(4*128)), api.ErrLong)
			getsNot(t, "a fault of another option's", opt(s.code+1000, head+a.s), api.ErrOption)
			getsNot(t, "a fault as the eighth", opt(s.code, head+strings.Repeat(good, 7)+a.s), a.err)
			getsNot(t, "a fault ahead of nine", opt(s.code, head+a.s+strings.Repeat(good, 9)), a.err)
			for _, b := range faults {
				getsNot(t, "two faults", opt(s.code, head+a.s+b.s), a.err)
				getsNot(t, "two faults apart", opt(s.code, head+good+a.s+good+b.s), a.err)
			}
		}
		for _, a := range faults[1:] {
			// What would be the ninth is not looked into.
			getsNot(t, "a fault of the ninth", opt(s.code, head+strings.Repeat(good, 8)+a.s), api.ErrLong)
		}
		getsNot(t, "a wrong status behind the eighth", opt(s.code, head+strings.Repeat(good, 8)+faults[0].s+good), api.ErrOption)
		getsNot(t, "a wrong status behind the ninth", opt(s.code, head+strings.Repeat(good, 9)+faults[0].s), api.ErrLong)
	}
	// Of one prefix: its data are short ahead of all; then it is none; then its options.
	getsNot(t, "no prefix that is short", opt(25, nulls(12)+inBytes(26, nulls(8)+"\x81"+nulls(15))), api.ErrShort)
	getsNot(t, "no prefix with half an option", opt(25, nulls(12)+inBytes(26, nulls(8)+"\x81"+nulls(17))), api.ErrOption)
	getsNot(t, "no prefix with a wrong status", opt(25, nulls(12)+inBytes(26, nulls(24)+"\x01"+inBytes(13, ""))), api.ErrOption)
	getsNot(t, "no prefix with too many options", opt(25, nulls(12)+inBytes(26, nulls(24)+"\x01"+nulls(4*129))), api.ErrOption)
}

// Raw options may have more data than fit into one: what they hold is read all the same.
func TestGetIAOfVeryLongData(t *testing.T) {
	for _, s := range shapes {
		in := has(one(here), 1, 2)
		place := hereBytes + num32(1) + num32(2)
		if s.kind == api.Deleg {
			place = num32(1) + num32(2) + "\x80" + hereBytes
		}
		long := inBytes(99, nulls(65535))
		o := opt(s.code, nulls(s.head)+long+inBytes(s.within, place+inBytes(99, nulls(65000)))+long+statusBytes(9))
		want := ia(s.kind, 0, in)
		want.Code = 9
		gets(t, "very long data", o, want)
		short, err := PutIA(want)
		if err != api.OK || len(short.Data) != s.head+4+s.ahead+6 {
			t.Errorf("PutIA is %d bytes, %d", len(short.Data), err)
		}
	}
}

// P15.4

func TestStatus(t *testing.T) {
	for code := range 1 << 16 {
		data := string([]byte{byte(code >> 8), byte(code)})
		if s := PutStatus(code); s != data {
			t.Errorf("PutStatus(%d) is %x", code, s)
		}
		for _, behind := range []string{"", "\x00", "a text", "\xff\xff"} {
			if got, ok := GetStatus(data + behind); got != code || !ok {
				t.Errorf("GetStatus(%x) is %d, %v", data+behind, got, ok)
			}
		}
	}
	for code := -70000; code < 0; code++ {
		if s := PutStatus(code); s != "" {
			t.Errorf("PutStatus(%d) is %x", code, s)
		}
	}
	for code := 65536; code <= 140000; code++ {
		if s := PutStatus(code); s != "" {
			t.Errorf("PutStatus(%d) is %x", code, s)
		}
	}
	for _, code := range wrongCodes {
		if s := PutStatus(code); s != "" {
			t.Errorf("PutStatus(%d) is %x", code, s)
		}
	}
	for b := range 256 {
		if got, ok := GetStatus(string([]byte{byte(b)})); got != -1 || ok {
			t.Errorf("GetStatus of one byte is %d, %v", got, ok)
		}
	}
	if got, ok := GetStatus(""); got != -1 || ok {
		t.Errorf("GetStatus of nothing is %d, %v", got, ok)
	}
	if got, ok := GetStatus("\x01\x02" + nulls(1<<20)); got != 258 || !ok {
		t.Errorf("GetStatus of a long text is %d, %v", got, ok)
	}
}

// P15.5

// roomy is a list with spare room behind it, in which marks stand.
func roomy[E any](list []E, mark E) []E {
	return append(slices.Clone(list), mark, mark, mark)[:len(list)]
}

func everything[E any](list []E) []E { return slices.Clone(list[:cap(list)]) }

func spoil[E any](list []E, mark E) {
	for i := range list[:cap(list)] {
		list[:cap(list)][i] = mark
	}
}

func TestNothingIsChangedOrShared(t *testing.T) {
	mark := opt(99, "mark")
	for _, list := range [][]api.Opt6{nil, some(1), some(5), some(128), some(129), opts(opt(1, nulls(65536)))} {
		given := roomy(list, mark)
		before := everything(given)
		s, _ := Emit(given)
		if !slices.Equal(everything(given), before) {
			t.Errorf("Emit changes what is handed in: %v", before)
		}
		first, _ := Parse(s)
		want := slices.Clone(first)
		second, _ := Parse(s)
		spoil(first, mark)
		if !slices.Equal(second, want) {
			t.Errorf("two answers of Parse share memory: %v", want)
		}
	}
	other := api.Inner{What: site, Pref: 99, Valid: 99, Code: 99}
	for _, s := range shapes {
		for n := range 10 {
			a := ia(s.kind, 1)
			a.Has = roomy(slices.Repeat([]api.Inner{has(one(here), 1, 2)}, n), other)
			before := everything(a.Has)
			o, err := PutIA(a)
			if Sound(a) != (err == api.OK) || !slices.Equal(everything(a.Has), before) {
				t.Errorf("PutIA or Sound changes what is handed in: %v", before)
			}
			if err != api.OK {
				continue
			}
			first, _ := GetIA(o)
			want := slices.Clone(first.Has)
			second, _ := GetIA(o)
			spoil(first.Has, other)
			if !slices.Equal(second.Has, want) {
				t.Errorf("two answers of GetIA share memory: %v", want)
			}
			spoil(a.Has, other)
			if again, _ := GetIA(o); !same(again, second) {
				t.Errorf("an option hangs on what it was made of: %v", again)
			}
		}
	}
}
