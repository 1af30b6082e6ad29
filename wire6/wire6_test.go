package wire6

import (
	"encoding/binary"
	"encoding/hex"
	"math"
	"slices"
	"strings"
	"testing"

	"tenancy/api"
	"tenancy/opt6"
)

// raw is the bytes that hexadecimal digits tell; spaces part them.
func raw(text string) string {
	list, err := hex.DecodeString(strings.ReplaceAll(text, " ", ""))
	if err != nil {
		panic(err)
	}
	return string(list)
}

func opt(code uint16, data string) api.Opt6 { return api.Opt6{Code: code, Data: data} }

func opts(list ...api.Opt6) []api.Opt6 { return list }

func nulls(n int) string { return strings.Repeat("\x00", n) }

// rising is n bytes, no two neighbours of which are the same.
func rising(n int) string {
	list := make([]byte, n)
	for i := range list {
		list[i] = byte(i - 1)
	}
	return string(list)
}

func char(b int) string { return string([]byte{byte(b)}) }

func num16(n int) string { return string(binary.BigEndian.AppendUint16(nil, uint16(n))) }

func num32(n uint32) string { return string(binary.BigEndian.AppendUint32(nil, n)) }

// inBytes is an option's bytes; those of data that are too long mean nothing.
func inBytes(code uint16, data string) string { return num16(int(code)) + num16(len(data)) + data }

func bytesOf(list []api.Opt6) string {
	var s strings.Builder
	for _, o := range list {
		s.WriteString(inBytes(o.Code, o.Data))
	}
	return s.String()
}

// own are the codes of the options that the fields beside Opts make.
var own = []uint16{1, 2, 3, 4, 13, 14, 19, 20, 25}

// sole are those of which a message has at most one.
var sole = []uint16{1, 2, 13, 14, 19, 20}

// foreign are n options of other codes, some of which are the same, and little data.
func foreign(n int) []api.Opt6 {
	var list []api.Opt6
	for i := 0; len(list) < n; i++ {
		if code := uint16(997 * i % 60); !slices.Contains(own, code) {
			list = append(list, opt(code, rising(i%5)))
		}
	}
	return list
}

// filling is options of so many bytes, 4 or more, in as few as there can be.
func filling(n int) []api.Opt6 {
	if n > 4+65535 {
		panic("too many")
	}
	return opts(opt(7, rising(n-4)))
}

func one(hi, lo uint64) api.Prefix { return api.Prefix{Addr: api.Addr{Hi: hi, Lo: lo}, Bits: 128} }

// The identity associations of the tests, of each kind one, and their options' bytes.
func lent(n int) (api.IA, string) {
	iaid := uint32(0x01020304 + n)
	switch n % 3 {
	case 0:
		return api.IA{Kind: api.NonT, Iaid: iaid, T1: 0x11121314, T2: 0x21222324, Code: -1, Has: []api.Inner{{What: one(5, 6), Pref: 7, Valid: 8, Code: 9}}},
			"\x00\x03\x00\x2e" + num32(iaid) + raw("11121314 21222324 0005 001e 0000000000000005 0000000000000006 00000007 00000008 000d 0002 0009")
	case 1:
		return api.IA{Kind: api.Temp, Iaid: iaid, Code: 2}, "\x00\x04\x00\x0a" + num32(iaid) + raw("000d 0002 0002")
	}
	return api.IA{Kind: api.Deleg, Iaid: iaid, Code: -1, Has: []api.Inner{{What: api.Prefix{Addr: api.Addr{Hi: 1 << 32}, Bits: 33}, Pref: 1, Valid: 2, Code: -1}}},
		"\x00\x19\x00\x29" + num32(iaid) + nulls(8) + raw("001a 0019 00000001 00000002 21 0000000100000000 0000000000000000")
}

// lends are n of them, and their bytes.
func lends(n int) ([]api.IA, string) {
	var list []api.IA
	s := ""
	for i := range n {
		a, part := lent(i)
		list, s = append(list, a), s+part
	}
	return list, s
}

// message is a solicit with these options alone.
func message(list ...api.Opt6) api.Msg6 { return api.Msg6{Type: 1, Code: -1, Opts: list} }

// blankHead is its first bytes.
const blankHead = "\x01\x00\x00\x00"

// full is a message with something in all its fields.
func full(list ...api.Opt6) api.Msg6 {
	ias, _ := lends(3)
	return api.Msg6{Type: 7, Xid: 0xa1b2c3, Client: "client", Server: "the server", IAs: ias, Code: 5, Rapid: true, Accept: true, Again: 11, Opts: list}
}

// fullParts are its bytes, part by part.
func fullParts() []string {
	parts := []string{
		"\x07\xa1\xb2\xc3", "\x00\x01\x00\x06client", "\x00\x02\x00\x0athe server", "\x00\x0d\x00\x02\x00\x05",
		"\x00\x0e\x00\x00", "\x00\x14\x00\x00", "\x00\x13\x00\x01\x0b",
	}
	for i := range 3 {
		_, part := lent(i)
		parts = append(parts, part)
	}
	return parts
}

// fullBytes is its bytes, but those of its Opts.
func fullBytes() string { return strings.Join(fullParts(), "") }

func same(a, b api.Msg6) bool {
	return a.Type == b.Type && a.Xid == b.Xid && a.Client == b.Client && a.Server == b.Server && a.Code == b.Code &&
		a.Rapid == b.Rapid && a.Accept == b.Accept && a.Again == b.Again &&
		slices.Equal(a.Opts, b.Opts) && slices.EqualFunc(a.IAs, b.IAs, sameIA)
}

func sameIA(a, b api.IA) bool {
	return a.Kind == b.Kind && a.Iaid == b.Iaid && a.T1 == b.T1 && a.T2 == b.T2 && a.Code == b.Code && slices.Equal(a.Has, b.Has)
}

// encodes fails unless m is a message, its bytes are these, and they are read as it.
func encodes(t *testing.T, what string, m api.Msg6, want string) {
	t.Helper()
	if !Sound(m) {
		t.Errorf("%s isn't sound", what)
	}
	if s, err := Encode(m); err != api.OK || s != want {
		t.Errorf("Encode of %s is %x, %d, not %x", what, s, err, want)
	}
	decodes(t, what, want, m)
}

// encodesNot fails unless Encode answers just an error; with ErrMessage m is none,
// else it is one.
func encodesNot(t *testing.T, what string, m api.Msg6, want api.Errno) {
	t.Helper()
	if Sound(m) != (want != api.ErrMessage) {
		t.Errorf("Sound of %s is %#v", what, Sound(m))
	}
	if s, err := Encode(m); err != want || s != "" {
		t.Errorf("Encode of %s is %d bytes, %d, not %d", what, len(s), err, want)
	}
}

// decodes fails unless Decode of the bytes is the message.
func decodes(t *testing.T, what string, s string, want api.Msg6) {
	t.Helper()
	if m, err := Decode(s); err != api.OK || !same(m, want) {
		t.Errorf("Decode of %s is %#v, %d, not %#v", what, m, err, want)
	}
}

// decodesNot fails unless Decode answers just an error.
func decodesNot(t *testing.T, what string, s string, want api.Errno) {
	t.Helper()
	if m, err := Decode(s); err != want || !same(m, api.Msg6{}) {
		t.Errorf("Decode of %s is %#v, %d, not %d", what, m, err, want)
	}
}

// The chapter's examples

func TestExamples(t *testing.T) {
	m := Blank(1)
	m.Xid, m.Client = 0x010203, "ab"
	encodes(t, "the first one", m, raw("01 01 02 03 00 01 00 02 61 62"))
	m.Rapid = true
	encodes(t, "with Rapid", m, raw("01 01 02 03 00 01 00 02 61 62 00 0e 00 00"))
	decodesNot(t, "the type 12", raw("0c 00 00 00"), api.ErrMessage)
	decodesNot(t, "three bytes", raw("01 00 00"), api.ErrShort)
	decodesNot(t, "a client of no byte", raw("01 00 00 00 00 01 00 00"), api.ErrOption)
	decodesNot(t, "Rapid with data", raw("01 00 00 00 00 0e 00 01 00"), api.ErrOption)
}

// P16.1

func TestEncodeOfEachField(t *testing.T) {
	encodes(t, "all fields", full(opt(6, "\x00\x17"), opt(0, ""), opt(65535, "z"), opt(6, "")),
		fullBytes()+raw("0006 0002 0017 0000 0000 ffff 0001 7a 0006 0000"))
	encodes(t, "no field", message(), blankHead)
	for i, c := range []struct {
		put  func(m *api.Msg6)
		want string
	}{
		{func(m *api.Msg6) { m.Client = "a" }, "0001 0001 61"},
		{func(m *api.Msg6) { m.Client = "\x00" }, "0001 0001 00"},
		{func(m *api.Msg6) { m.Server = "b" }, "0002 0001 62"},
		{func(m *api.Msg6) { m.Code = 0 }, "000d 0002 0000"},
		{func(m *api.Msg6) { m.Code = 0x0102 }, "000d 0002 0102"},
		{func(m *api.Msg6) { m.Rapid = true }, "000e 0000"},
		{func(m *api.Msg6) { m.Accept = true }, "0014 0000"},
		{func(m *api.Msg6) { m.Again = 5 }, "0013 0001 05"},
		{func(m *api.Msg6) { m.Again = 6 }, "0013 0001 06"},
		{func(m *api.Msg6) { m.Again = 11 }, "0013 0001 0b"},
		{func(m *api.Msg6) { m.IAs = []api.IA{{Kind: api.Temp, Iaid: 1, Code: -1}} }, "0004 0004 00000001"},
		{func(m *api.Msg6) { m.IAs = []api.IA{{Kind: api.NonT, Iaid: 1, Code: 2}} }, "0003 0012 00000001 0000000000000000 000d 0002 0002"},
		{func(m *api.Msg6) { m.IAs = []api.IA{{Kind: api.Deleg, Iaid: 1, Code: -1}} }, "0019 000c 00000001 0000000000000000"},
		{func(m *api.Msg6) { m.Opts = opts(opt(9, "r")) }, "0009 0001 72"},
		{func(m *api.Msg6) { m.Opts = opts(opt(5, ""), opt(26, "")) }, "0005 0000 001a 0000"},
	} {
		m := message()
		c.put(&m)
		if s, err := Encode(m); err != api.OK || s != blankHead+raw(c.want) || !Sound(m) {
			t.Errorf("row %d: Encode is %x, %d", i, s, err)
		}
		decodes(t, c.want, blankHead+raw(c.want), m)
	}
}

// Each choice of the fields, in their order.
func TestEncodeOfEachChoiceOfFields(t *testing.T) {
	parts := fullParts()
	for choice := range 1 << 7 {
		m, s := full(opt(6, "q")), parts[0]
		empty := []func(){
			func() { m.Client = "" }, func() { m.Server = "" }, func() { m.Code = -1 },
			func() { m.Rapid = false }, func() { m.Accept = false }, func() { m.Again = 0 },
		}
		for i, drop := range empty {
			if choice>>i&1 == 0 {
				drop()
			} else {
				s += parts[1+i]
			}
		}
		if choice>>6 == 0 {
			m.IAs = nil
		} else {
			s += strings.Join(parts[7:], "")
		}
		encodes(t, "a choice", m, s+"\x00\x06\x00\x01q")
	}
}

func TestTypes(t *testing.T) {
	for kind := -300; kind <= 1000; kind++ {
		m := full()
		m.Type = kind
		if kind >= 1 && kind <= 11 {
			encodes(t, "each type", m, char(kind)+fullBytes()[1:])
		} else {
			encodesNot(t, "no type", m, api.ErrMessage)
		}
	}
	for kind := range 12 {
		for _, far := range []int{1 << 8, 1 << 16, 1 << 32, -1 << 8, -1 << 32, math.MinInt, 1 << 62} {
			m := message()
			m.Type = kind + far
			encodesNot(t, "a type beyond", m, api.ErrMessage)
		}
	}
	m := message()
	for _, kind := range []int{math.MinInt, math.MaxInt, -1, math.MaxInt32, math.MinInt32} {
		m.Type = kind
		encodesNot(t, "an end of the ints", m, api.ErrMessage)
	}
}

func TestXids(t *testing.T) {
	for _, n := range []uint32{0, 1, 0x7f, 0x80, 0xff, 0x100, 0xff00, 0x10000, 0xff0000, 0x800000, 0x7fffff, 0xfffffe, 0xffffff, 0x010203} {
		for kind := 1; kind <= 11; kind++ {
			m := message()
			m.Type, m.Xid = kind, n
			encodes(t, "an Xid", m, string([]byte{byte(kind), byte(n >> 16), byte(n >> 8), byte(n)}))
		}
	}
	for _, n := range []uint32{1 << 24, 1<<24 + 1, 1<<24 + 0x010203, 1 << 25, 1 << 31, 1<<31 + 5, math.MaxUint32 - 1, math.MaxUint32} {
		m := message()
		m.Xid = n
		encodesNot(t, "an Xid beyond", m, api.ErrMessage)
	}
}

func TestClientsAndServers(t *testing.T) {
	for n := range 400 {
		a, b := message(), message()
		a.Client, b.Server = rising(n), rising(n)
		both := full()
		both.Client, both.Server = nulls(n), rising(n)
		switch {
		case n == 0:
			encodes(t, "no client", a, blankHead)
			encodes(t, "no server", b, blankHead)
		case n <= 130:
			encodes(t, "a client", a, blankHead+inBytes(1, rising(n)))
			encodes(t, "a server", b, blankHead+inBytes(2, rising(n)))
			parts := fullParts()
			encodes(t, "both", both, parts[0]+inBytes(1, nulls(n))+inBytes(2, rising(n))+strings.Join(parts[3:], ""))
		default:
			encodesNot(t, "too long a client", a, api.ErrMessage)
			encodesNot(t, "too long a server", b, api.ErrMessage)
			encodesNot(t, "too long ones", both, api.ErrMessage)
		}
	}
	for _, n := range []int{256, 257, 65535, 65536, 65537, 65600, 1 << 20} {
		a, b := message(), message()
		a.Client, b.Server = nulls(n), nulls(n)
		encodesNot(t, "a very long client", a, api.ErrMessage)
		encodesNot(t, "a very long server", b, api.ErrMessage)
	}
}

func TestCodes(t *testing.T) {
	for code := -1; code <= 65535; code++ {
		m := message()
		m.Code = code
		want := blankHead
		if code >= 0 {
			want += "\x00\x0d\x00\x02" + num16(code)
		}
		encodes(t, "a Code", m, want)
	}
	for _, code := range []int{math.MinInt, -1 << 32, -65537, -65536, -65535, -257, -256, -255, -3, -2, 65536, 65537, 1 << 17, 1<<32 - 1, 1 << 32, 1<<32 + 2, math.MaxInt} {
		m := full()
		m.Code = code
		encodesNot(t, "a wrong Code", m, api.ErrMessage)
	}
}

func TestAgain(t *testing.T) {
	for n := -600; n <= 66000; n++ {
		m := message()
		m.Again = n
		switch n {
		case 0:
			encodes(t, "no Again", m, blankHead)
		case 5, 6, 11:
			encodes(t, "Again", m, blankHead+"\x00\x13\x00\x01"+char(n))
		default:
			encodesNot(t, "a wrong Again", m, api.ErrMessage)
		}
	}
	for _, n := range []int{0, 5, 6, 11} {
		for _, far := range []int{1 << 8, 1 << 16, 1 << 32, -1 << 32, math.MinInt, 1 << 62} {
			m := full()
			m.Again = n + far
			encodesNot(t, "an Again beyond", m, api.ErrMessage)
		}
	}
}

func TestHowManyIAs(t *testing.T) {
	for n := range 20 {
		m := message(opt(6, "q"))
		list, s := lends(n)
		m.IAs = list
		if n > 8 {
			encodesNot(t, "too many", m, api.ErrMessage)
			continue
		}
		encodes(t, "as many as may be", m, blankHead+s+"\x00\x06\x00\x01q")
		slices.Reverse(m.IAs)
		back := blankHead
		for i := n - 1; i >= 0; i-- {
			_, part := lent(i)
			back += part
		}
		encodes(t, "in another order", m, back+"\x00\x06\x00\x01q")
	}
	m := message()
	m.IAs = make([]api.IA, 1<<16)
	encodesNot(t, "very many", m, api.ErrMessage)
}

// Two of the same Kind and Iaid are two.
func TestTheSameIATwice(t *testing.T) {
	for i := range 3 {
		a, part := lent(i)
		m := message()
		m.IAs = []api.IA{a, a, a}
		encodes(t, "the same", m, blankHead+strings.Repeat(part, 3))
	}
}

func TestWrongIAs(t *testing.T) {
	nonT, _ := lent(0)
	long := api.IA{Kind: api.Deleg, Code: -1, Has: make([]api.Inner, 9)}
	for _, wrong := range []api.IA{
		{}, {Kind: 1, Code: -1}, {Kind: 5, Code: -1}, {Kind: -1, Code: -1}, {Kind: math.MaxInt, Code: -1}, {Kind: 1<<32 + 2, Code: -1},
		{Kind: api.NonT, Code: -2}, {Kind: api.NonT, Code: 65536}, {Kind: api.Temp, T1: 1, Code: -1}, {Kind: api.Temp, T2: 1, Code: -1}, long,
		{Kind: api.NonT, Code: -1, Has: []api.Inner{{Code: -1}}},
		{Kind: api.NonT, Code: -1, Has: []api.Inner{{What: one(1, 2), Code: -2}}},
		{Kind: api.Deleg, Code: -1, Has: []api.Inner{{What: api.Prefix{Bits: 129}, Code: -1}}},
		{Kind: api.Deleg, Code: -1, Has: []api.Inner{{What: api.Prefix{Addr: api.Addr{Lo: 1}, Bits: 127}, Code: -1}}},
	} {
		for n := range 8 {
			for at := range n + 1 {
				m := full()
				m.IAs = slices.Insert(slices.Repeat([]api.IA{nonT}, n), at, wrong)
				encodesNot(t, "a wrong one", m, api.ErrMessage)
			}
		}
	}
}

func TestCodesOfOpts(t *testing.T) {
	for code := range 1 << 16 {
		o := opt(uint16(code), "ab")
		if slices.Contains(own, o.Code) {
			for _, m := range []api.Msg6{message(o), message(opt(8, ""), o), message(o, opt(8, "")), message(opt(uint16(code), "")), full(o), full(o, o)} {
				encodesNot(t, "one of another field", m, api.ErrMessage)
			}
		} else {
			encodes(t, "one of the Opts", message(o), blankHead+num16(code)+"\x00\x02ab")
		}
	}
}

// The places of a code that is of another field, among many.
func TestWrongOptsAtEachPlace(t *testing.T) {
	for _, code := range own {
		for at := range 128 {
			list := foreign(128)
			list[at].Code = code
			encodesNot(t, "one of another field", message(list...), api.ErrMessage)
		}
	}
}

func TestHowManyOptions(t *testing.T) {
	list := foreign(300)
	for n := range 300 {
		if n <= 128 {
			encodes(t, "as many as may be", message(list[:n]...), blankHead+bytesOf(list[:n]))
		} else {
			encodesNot(t, "too many", message(list[:n]...), api.ErrMessage)
		}
		if n <= 119 {
			encodes(t, "all fields", full(list[:n]...), fullBytes()+bytesOf(list[:n]))
		} else {
			encodesNot(t, "all fields and too many", full(list[:n]...), api.ErrMessage)
		}
	}
	encodesNot(t, "very many", message(make([]api.Opt6, 1<<20)...), api.ErrMessage)
	for _, put := range []func(m *api.Msg6){
		func(m *api.Msg6) { m.Client = "a" },
		func(m *api.Msg6) { m.Server = "a" },
		func(m *api.Msg6) { m.Code = 0 },
		func(m *api.Msg6) { m.Rapid = true },
		func(m *api.Msg6) { m.Accept = true },
		func(m *api.Msg6) { m.Again = 5 },
		func(m *api.Msg6) { m.IAs, _ = lends(1) },
	} {
		m := message(list[:127]...)
		put(&m)
		if s, err := Encode(m); err != api.OK || !Sound(m) || len(s) < len(blankHead+bytesOf(list[:127])) {
			t.Errorf("127 and one more are %d bytes, %d", len(s), err)
		}
		m.Opts = list[:128]
		encodesNot(t, "128 and one more", m, api.ErrMessage)
	}
	// The options within an identity association are none of the message's.
	m := message(list[:120]...)
	for i := range 8 {
		a := api.IA{Kind: api.NonT, Iaid: uint32(i), Has: slices.Repeat([]api.Inner{{What: one(1, 2), Code: 3}}, 8), Code: 4}
		m.IAs = append(m.IAs, a)
	}
	s, err := Encode(m)
	if err != api.OK {
		t.Fatal(err)
	}
	decodes(t, "many within", s, m)
}

func TestHowManyBytes(t *testing.T) {
	for n := 65490; n <= 65520; n++ {
		list := filling(n - 4)
		if n <= 65507 {
			encodes(t, "as many as may be", message(list...), blankHead+bytesOf(list))
		} else {
			encodesNot(t, "too many", message(list...), api.ErrLong)
		}
		list = filling(n - len(fullBytes()))
		if n <= 65507 {
			encodes(t, "all fields", full(list...), fullBytes()+bytesOf(list))
		} else {
			encodesNot(t, "all fields and too many", full(list...), api.ErrLong)
		}
	}
	for _, n := range []int{65500, 65534, 65535} {
		encodesNot(t, "long data", message(opt(7, nulls(n))), api.ErrLong)
	}
	many := slices.Repeat(opts(opt(7, nulls(65535))), 128)
	encodesNot(t, "much long data", message(many...), api.ErrLong)
	for _, n := range []int{65536, 65537, 1 << 17, 1<<17 + 1, 1 << 24} {
		wrong := opt(7, nulls(n))
		encodesNot(t, "too long data", message(wrong), api.ErrMessage)
		for _, at := range []int{0, 1, 64, 127} {
			encodesNot(t, "too long data among others", message(slices.Insert(foreign(127), at, wrong)...), api.ErrMessage)
			encodesNot(t, "too long data among long ones", message(slices.Insert(many[:127:127], at, wrong)...), api.ErrMessage)
		}
	}
}

// P16.2

func TestDecodeOfWrongLengths(t *testing.T) {
	for n := range 4 {
		for _, s := range []string{nulls(n), strings.Repeat("\xff", n), fullBytes()[:n], strings.Repeat("\x01", n), strings.Repeat("\x0c", n)} {
			decodesNot(t, "too few bytes", s, api.ErrShort)
		}
	}
	for _, n := range []int{65508, 65509, 65536, 65540, 1 << 17, 1 << 20} {
		for _, s := range []string{blankHead + nulls(n-4), strings.Repeat("\xff", n), blankHead + inBytes(7, nulls(65000)) + inBytes(7, nulls(n-65012))} {
			decodesNot(t, "too many bytes", s, api.ErrLong)
		}
	}
	for n := 65000; n <= 65507; n++ {
		decodes(t, "as many as may be", blankHead+bytesOf(filling(n-4)), message(filling(n-4)...))
	}
	decodesNot(t, "as many as may be, no type", nulls(65507), api.ErrMessage)
	decodesNot(t, "as many as may be, too many options", blankHead+nulls(65503), api.ErrLong)
	decodesNot(t, "as many as may be, not whole", blankHead+strings.Repeat("\x07", 65503), api.ErrShort)
	decodesNot(t, "as many as may be, a wrong option", blankHead+inBytes(1, nulls(65499)), api.ErrOption)
}

func TestDecodeOfWrongTypes(t *testing.T) {
	for b := range 256 {
		m := full(foreign(3)...)
		m.Type = b
		s := char(b) + fullBytes()[1:] + bytesOf(m.Opts)
		if b >= 1 && b <= 11 {
			decodes(t, "a type", s, m)
			continue
		}
		for _, rest := range []string{"", "\x00", "\x00\x01\x00\x00", "\x00\x01\x00\x02a", nulls(4 * 129), s[4:], strings.Repeat("\x00\x0e\x00\x00", 2)} {
			decodesNot(t, "no type", char(b)+"\x01\x02\x03"+rest, api.ErrMessage)
		}
	}
}

func TestDecodeOfWrongOptionLists(t *testing.T) {
	s := fullBytes()
	ends := map[int]int{}
	at := 0
	for _, part := range fullParts() {
		at += len(part)
		ends[at]++
	}
	for n := 4; n < len(s); n++ {
		if ends[n] > 0 {
			continue
		}
		decodesNot(t, "a part", s[:n], api.ErrShort)
	}
	list := foreign(130)
	decodes(t, "128 options", blankHead+bytesOf(list[:128]), message(list[:128]...))
	decodesNot(t, "129 options", blankHead+bytesOf(list[:129]), api.ErrLong)
	decodes(t, "128 options with all fields", fullBytes()+bytesOf(list[:119]), full(list[:119]...))
	decodesNot(t, "129 options with all fields", fullBytes()+bytesOf(list[:120]), api.ErrLong)
	decodesNot(t, "129 options, then one that isn't whole", blankHead+bytesOf(list[:129])+"\x00", api.ErrLong)
	decodesNot(t, "128 options, then one that isn't whole", blankHead+bytesOf(list[:128])+"\x00", api.ErrShort)
	// The list as a whole comes ahead of what its options hold.
	for _, code := range own {
		wrong := inBytes(code, nulls(140)) + inBytes(code, nulls(140))
		if code == 3 || code == 4 || code == 25 {
			wrong = inBytes(code, "")
		}
		decodesNot(t, "a wrong one, then one that isn't whole", blankHead+wrong+"\x00\x06\x00\x01", api.ErrShort)
		decodesNot(t, "a wrong one, then too many", blankHead+wrong+bytesOf(list[:128]), api.ErrLong)
	}
}

func TestDecodeOfNames(t *testing.T) {
	for code := uint16(1); code <= 2; code++ {
		for n := range 400 {
			m := message()
			if code == 1 {
				m.Client = rising(n)
			} else {
				m.Server = rising(n)
			}
			s := blankHead + inBytes(code, rising(n))
			if n >= 1 && n <= 130 {
				decodes(t, "a name", s, m)
			} else {
				decodesNot(t, "a name that is none", s, api.ErrOption)
			}
		}
		for _, n := range []int{512, 65280, 65281, 65410, 65499} {
			decodesNot(t, "a very long name", blankHead+inBytes(code, nulls(n)), api.ErrOption)
		}
	}
}

func TestDecodeOfStatuses(t *testing.T) {
	for n := range 300 {
		text := rising(n)
		m := message()
		m.Code = 0x0506
		decodes(t, "a status", blankHead+inBytes(13, "\x05\x06"+text), m)
	}
	for b := range 256 {
		decodesNot(t, "a byte", blankHead+inBytes(13, char(b)), api.ErrOption)
	}
	decodesNot(t, "no byte", blankHead+inBytes(13, ""), api.ErrOption)
	decodesNot(t, "a byte among others", fullParts()[0]+fullParts()[1]+inBytes(13, "a")+fullParts()[2], api.ErrOption)
}

func TestDecodeOfFlags(t *testing.T) {
	for _, code := range []uint16{14, 20} {
		for n := 1; n < 300; n++ {
			decodesNot(t, "data", blankHead+inBytes(code, nulls(n)), api.ErrOption)
			decodesNot(t, "data", blankHead+inBytes(code, rising(n)), api.ErrOption)
		}
	}
	for b := range 256 {
		m := message()
		m.Again = b
		s := blankHead + inBytes(19, char(b))
		if b == 5 || b == 6 || b == 11 {
			decodes(t, "Again", s, m)
			decodesNot(t, "Again with a byte more", blankHead+inBytes(19, char(b)+"\x00"), api.ErrOption)
			decodesNot(t, "Again behind a byte", blankHead+inBytes(19, "\x00"+char(b)), api.ErrOption)
			decodesNot(t, "Again and Again", blankHead+inBytes(19, char(b)+char(b)), api.ErrOption)
		} else {
			decodesNot(t, "a wrong Again", s, api.ErrOption)
		}
	}
	decodesNot(t, "Again without data", blankHead+inBytes(19, ""), api.ErrOption)
	for n := 2; n < 300; n++ {
		decodesNot(t, "Again of many bytes", blankHead+inBytes(19, strings.Repeat("\x05", n)), api.ErrOption)
	}
}

// rightData is data that are right in an option of one of the codes own.
func rightData(code uint16) string {
	switch code {
	case 1, 2:
		return "name"
	case 13:
		return "\x00\x02text"
	case 14, 20:
		return ""
	case 19:
		return "\x06"
	case 4:
		return nulls(4)
	}
	return nulls(12)
}

// wrongData is data that are not.
func wrongData(code uint16) []string {
	switch code {
	case 1, 2:
		return []string{"", nulls(131)}
	case 13:
		return []string{"", "\x05"}
	case 14, 20:
		return []string{"\x00", "ab"}
	case 19:
		return []string{"", "\x00", "\x07", "\x05\x05"}
	}
	return nil
}

func TestDecodeOfTwoOfACode(t *testing.T) {
	for _, code := range own {
		right := inBytes(code, rightData(code))
		twice := []string{
			right + right,
			right + inBytes(8, "") + right,
			inBytes(8, "") + right + bytesOf(foreign(100)) + right,
		}
		for _, data := range wrongData(code) {
			twice = append(twice, right+inBytes(code, data))
		}
		for _, s := range twice {
			if slices.Contains(sole, code) {
				decodesNot(t, "two of a code", blankHead+s, api.ErrOption)
				continue
			}
			m, err := Decode(blankHead + s)
			if err != api.OK || len(m.IAs) != 2 {
				t.Errorf("two of the code %d are %#v, %d", code, m, err)
			}
		}
	}
	for _, code := range sole {
		for _, other := range sole {
			if code == other {
				continue
			}
			a, b := inBytes(code, rightData(code)), inBytes(other, rightData(other))
			if _, err := Decode(blankHead + a + b); err != api.OK {
				t.Errorf("one of the code %d and one of %d are %d", code, other, err)
			}
			decodesNot(t, "two with another between", blankHead+a+b+a, api.ErrOption)
		}
	}
	for code := range 300 {
		if o := opt(uint16(code), "a"); !slices.Contains(own, o.Code) {
			decodes(t, "many of a code", blankHead+bytesOf(slices.Repeat(opts(o), 128)), message(slices.Repeat(opts(o), 128)...))
		}
	}
}

// A field's option may stand anywhere.
func TestDecodeOfOtherOrders(t *testing.T) {
	parts := append(fullParts()[1:], "\x00\x08\x00\x01p")
	want := full(opt(8, "p"))
	for turn := range parts {
		s := strings.Join(parts[turn:], "") + strings.Join(parts[:turn], "")
		m := want
		// Of the identity associations some may have come to stand ahead of others.
		if at := turn - 6; at > 0 && at < 3 {
			m.IAs = append(slices.Clone(want.IAs[at:]), want.IAs[:at]...)
		}
		decodes(t, "a turned order", "\x07\xa1\xb2\xc3"+s, m)
	}
	list := foreign(10)
	s := "\x07\xa1\xb2\xc3"
	for i := range parts[:9] {
		s += bytesOf(list[i:i+1]) + parts[i]
	}
	decodes(t, "others between", s+bytesOf(list[9:]), full(list...))
	slices.Reverse(parts)
	m := full(opt(8, "p"))
	slices.Reverse(m.IAs)
	decodes(t, "the other way", "\x07\xa1\xb2\xc3"+strings.Join(parts, ""), m)
}

func TestDecodeOfManyIAs(t *testing.T) {
	for n := range 20 {
		list, s := lends(n)
		m := message()
		m.IAs = list
		if n <= 8 {
			decodes(t, "as many as may be", blankHead+s, m)
			continue
		}
		decodesNot(t, "too many", blankHead+s, api.ErrLong)
		_, eight := lends(8)
		for _, code := range []uint16{3, 4, 25} {
			decodesNot(t, "the last one has no data", blankHead+eight+inBytes(code, ""), api.ErrLong)
			decodesNot(t, "too many, then a wrong option", blankHead+eight+inBytes(code, nulls(12))+inBytes(14, "a"), api.ErrLong)
			decodesNot(t, "a wrong option, then too many", blankHead+eight+inBytes(14, "a")+inBytes(code, nulls(12)), api.ErrOption)
		}
	}
	for _, code := range []uint16{3, 4, 25} {
		s := strings.Repeat(inBytes(code, nulls(12)), 8)
		if code == 4 {
			s = strings.Repeat(inBytes(code, nulls(4)), 8)
		}
		if m, err := Decode(blankHead + s); err != api.OK || len(m.IAs) != 8 {
			t.Errorf("8 of the code %d are %#v, %d", code, m, err)
		}
		for _, ninth := range []string{inBytes(3, nulls(12)), inBytes(4, nulls(4)), inBytes(25, nulls(12))} {
			decodesNot(t, "a ninth one", blankHead+s+ninth, api.ErrLong)
		}
	}
}

// wrongIAs are options of identity associations with their faults.
var wrongIAs = []struct {
	code uint16
	data string
	want api.Errno
}{
	{3, "", api.ErrShort}, {4, "", api.ErrShort}, {25, "", api.ErrShort},
	{3, nulls(11), api.ErrShort}, {4, nulls(3), api.ErrShort}, {25, nulls(11), api.ErrShort},
	{3, nulls(13), api.ErrShort}, {4, nulls(5), api.ErrShort}, {25, nulls(13), api.ErrShort},
	{3, nulls(12) + nulls(4*129), api.ErrLong}, {4, nulls(4) + nulls(4*129), api.ErrLong}, {25, nulls(12) + nulls(4*129), api.ErrLong},
	{3, nulls(12) + "\x00\x0d\x00\x01\x00", api.ErrOption}, {4, nulls(4) + "\x00\x0d\x00\x00", api.ErrOption}, {25, nulls(12) + "\x00\x0d\x00\x01a", api.ErrOption},
	{3, nulls(12) + "\x00\x05\x00\x17" + nulls(23), api.ErrShort}, {4, nulls(4) + strings.Repeat("\x00\x05\x00\x18"+nulls(24), 9), api.ErrLong},
	{25, nulls(12) + "\x00\x1a\x00\x19" + nulls(8) + "\x81" + nulls(16), api.ErrOption},
	{25, nulls(12) + "\x00\x1a\x00\x19" + nulls(8) + "\x7f" + nulls(15) + "\x01", api.ErrOption},
	{3, nulls(12) + "\x00\x05\x00\x1d" + nulls(24) + "\x00\x0d\x00\x01\x00", api.ErrOption},
}

func TestDecodeOfWrongIAs(t *testing.T) {
	for _, c := range wrongIAs {
		wrong := inBytes(c.code, c.data)
		if _, err := opt6.GetIA(opt(c.code, c.data)); err != c.want {
			t.Fatalf("GetIA(%d: %x) is %d", c.code, c.data, err)
		}
		for n := range 8 {
			_, ahead := lends(n)
			decodesNot(t, "a wrong one", blankHead+ahead+wrong, c.want)
			decodesNot(t, "a wrong one ahead of others", blankHead+ahead+wrong+ahead, c.want)
			decodesNot(t, "a wrong one among all fields", strings.Join(fullParts()[:7], "")+wrong, c.want)
		}
	}
}

// Of all the faults the first option's is told.
func TestDecodeTellsTheFirstFault(t *testing.T) {
	for _, c := range wrongIAs {
		wrong := inBytes(c.code, c.data)
		for _, d := range wrongIAs {
			decodesNot(t, "two wrong ones", blankHead+wrong+inBytes(d.code, d.data), c.want)
		}
		for _, code := range sole {
			right := inBytes(code, rightData(code))
			decodesNot(t, "a wrong one, then two of a code", blankHead+wrong+right+right, c.want)
			decodesNot(t, "one of a code, a wrong one, then another of the code", blankHead+right+wrong+right, c.want)
			decodesNot(t, "two of a code, then a wrong one", blankHead+right+right+wrong, api.ErrOption)
			for _, data := range wrongData(code) {
				decodesNot(t, "a wrong one, then another", blankHead+wrong+inBytes(code, data), c.want)
				decodesNot(t, "another, then a wrong one", blankHead+inBytes(code, data)+wrong, api.ErrOption)
			}
		}
	}
}

// P16.3

// What isn't minded of what is read is not written again.
func TestEncodeOfDecode(t *testing.T) {
	for i, c := range []struct{ read, written string }{
		{"000d 0006 0001 74657874", "000d 0002 0001"},
		{"000e 0000 0001 0001 61", "0001 0001 61 000e 0000"},
		{"0006 0001 7a 0013 0001 05 0014 0000 0002 0001 62 0001 0001 61", "0001 0001 61 0002 0001 62 0014 0000 0013 0001 05 0006 0001 7a"},
		{"0004 000a 00000001 0063 0002 6162 0004 0004 00000002", "0004 0004 00000001 0004 0004 00000002"},
		{"0004 0010 00000001 000d 0002 0003 000d 0002 0004", "0004 000a 00000001 000d 0002 0003"},
		{"0004 0026 00000001 000d 0002 0003 0005 0018 00000000000000010000000000000002 00000003 00000004",
			"0004 0026 00000001 0005 0018 00000000000000010000000000000002 00000003 00000004 000d 0002 0003"},
		{"0008 0000 0007 0000 0008 0001 61", "0008 0000 0007 0000 0008 0001 61"},
	} {
		m, err := Decode(blankHead + raw(c.read))
		if err != api.OK {
			t.Errorf("row %d: Decode is %d", i, err)
		}
		encodes(t, c.read, m, blankHead+raw(c.written))
	}
	// The longest that can be read can be written, whatever it has.
	for _, s := range []string{
		blankHead + bytesOf(filling(65503)),
		fullBytes() + bytesOf(filling(65507-len(fullBytes()))),
		blankHead + bytesOf(filling(65503-len(fullBytes()[4:]))) + fullBytes()[4:],
		blankHead + bytesOf(slices.Repeat(opts(opt(7, nulls(507))), 127)) + inBytes(13, "\x00\x01"+nulls(600)),
	} {
		m, err := Decode(s)
		if err != api.OK {
			t.Fatalf("Decode of %d bytes is %d", len(s), err)
		}
		again, err := Encode(m)
		if err != api.OK || len(again) > len(s) {
			t.Fatalf("Encode is %d bytes, %d", len(again), err)
		}
		decodes(t, "a long one", again, m)
	}
}

// P16.4

func TestBlank(t *testing.T) {
	for _, far := range []int{0, 1 << 8, 1 << 32, math.MaxInt - 300, math.MinInt + 300, -1 << 32} {
		for n := -300; n <= 300; n++ {
			kind := n + far
			if m := Blank(kind); !same(m, api.Msg6{Type: kind, Code: -1}) {
				t.Errorf("Blank(%d) is %#v", kind, m)
			}
			if Sound(Blank(kind)) != (kind >= 1 && kind <= 11) {
				t.Errorf("Sound of Blank(%d) is %#v", kind, Sound(Blank(kind)))
			}
		}
	}
	m := Blank(1)
	m.Client, m.IAs, m.Opts = "other", append(m.IAs, api.IA{}), append(m.Opts, opt(8, ""))
	if again := Blank(1); !same(again, message()) {
		t.Errorf("Blank is %#v behind a change", again)
	}
}

// roomy is a list with spare room behind it, in which marks stand.
func roomy[E any](list []E, mark E) []E {
	return append(slices.Clone(list), mark, mark, mark)[:len(list)]
}

func everything[E any](list []E) []E { return slices.Clone(list[:cap(list)]) }

func spoil[E any](list []E, mark E) {
	for i := range list[:cap(list)] {
		list[:cap(list)][i] = mark
	}
}

var (
	markOpt = opt(99, "mark")
	markHas = api.Inner{What: one(99, 99), Pref: 99, Valid: 99, Code: 99}
	markIA  = api.IA{Kind: api.NonT, Iaid: 99, Code: 99}
)

// spoilAll changes all the lists of a message.
func spoilAll(m *api.Msg6) {
	for i := range m.IAs {
		spoil(m.IAs[i].Has, markHas)
	}
	spoil(m.IAs, markIA)
	spoil(m.Opts, markOpt)
}

// roomyAll is a message whose lists have all spare room.
func roomyAll(m api.Msg6) api.Msg6 {
	m.IAs, m.Opts = roomy(m.IAs, markIA), roomy(m.Opts, markOpt)
	for i := range m.IAs {
		m.IAs[i].Has = roomy(m.IAs[i].Has, markHas)
	}
	return m
}

// all is a message's lists, their spare room too, as one that is compared.
func all(m api.Msg6) api.Msg6 {
	m.IAs, m.Opts = everything(m.IAs), everything(m.Opts)
	for i := range m.IAs {
		m.IAs[i].Has = everything(m.IAs[i].Has)
	}
	return m
}

func TestNothingIsChangedOrShared(t *testing.T) {
	ias, _ := lends(9)
	var given []api.Msg6
	for _, list := range [][]api.Opt6{nil, foreign(1), foreign(5), foreign(120), foreign(129), opts(opt(1, "a")), opts(opt(7, nulls(65536)))} {
		for n := range 10 {
			m := full(list...)
			m.IAs = ias[:n]
			given = append(given, m, api.Msg6{Type: 1, Code: -1, IAs: ias[:n], Opts: list})
		}
	}
	for _, m := range given {
		m = roomyAll(m)
		before := all(m)
		sound := Sound(m)
		s, err := Encode(m)
		if sound != (err == api.OK) || !same(all(m), before) {
			t.Errorf("what is handed in is changed: %#v", before)
		}
		if err != api.OK {
			continue
		}
		first, _ := Decode(s)
		second, _ := Decode(s)
		if !same(first, m) {
			t.Errorf("Decode of Encode is %#v, not %#v", first, m)
		}
		want := all(second)
		spoilAll(&first)
		spoilAll(&m)
		if !same(all(second), want) {
			t.Errorf("two answers of Decode share memory: %#v", want)
		}
		// What is put behind one list of an answer stands in none of the others.
		for i := range second.IAs {
			_ = append(second.IAs[i].Has, markHas, markHas)
		}
		if again, _ := Encode(second); again != s {
			t.Errorf("two lists of an answer share memory: %#v", want)
		}
	}
}
