package wire4

import (
	"encoding/hex"
	"slices"
	"strings"
	"testing"

	"tenancy/api"
)

// raw is the bytes that hexadecimal digits tell; spaces part them.
func raw(text string) string {
	list, err := hex.DecodeString(strings.ReplaceAll(text, " ", ""))
	if err != nil {
		panic(err)
	}
	return string(list)
}

func opt(code byte, data string) api.Opt4 { return api.Opt4{Code: code, Data: data} }

func opts(list ...api.Opt4) []api.Opt4 { return list }

func nulls(n int) string { return strings.Repeat("\x00", n) }

// rising is n bytes, no two neighbours of which are the same; 0 and 255 are among
// the first ones.
func rising(n int) string {
	list := make([]byte, n)
	for i := range list {
		list[i] = byte(i - 1)
	}
	return string(list)
}

// inBytes is the bytes of one option, whose data are at most 255 bytes.
func inBytes(code byte, data string) string { return string([]byte{code, byte(len(data))}) + data }

// pieces is data in options of at most this many bytes each.
func pieces(code byte, data string, most int) string {
	s := ""
	for len(data) > most {
		s += inBytes(code, data[:most])
		data = data[most:]
	}
	return s + inBytes(code, data)
}

func bytesOf(list []api.Opt4) string {
	s := ""
	for _, o := range list {
		s += pieces(o.Code, o.Data, 255)
	}
	return s
}

// codes are n options of one byte of data each, with different codes, none of which
// is 52.
func codes(n int) []api.Opt4 {
	var list []api.Opt4
	for code := byte(1); len(list) < n; code++ {
		if code != 52 {
			list = append(list, opt(code, string([]byte{7 * code})))
		}
	}
	return list
}

// laid is bytes of so many, the first of which are these.
func laid(s string, n int) string {
	if len(s) > n {
		panic("too long")
	}
	return s + nulls(n-len(s))
}

const mark = "\x63\x82\x53\x63"

// datagram is a message's bytes: a head of bytes 0 but for Name and File, the
// cookie, and what stands behind it.
func datagram(name, file, behind string) string {
	return nulls(44) + laid(name, 64) + laid(file, 128) + mark + behind
}

// message is the blank one with these fields for names, and options.
func message(name, file string, list ...api.Opt4) api.Msg4 {
	return api.Msg4{Hard: nulls(16), Name: laid(name, 64), File: laid(file, 128), Opts: list}
}

// full is a message with different bytes in all its fields.
func full(list ...api.Opt4) api.Msg4 {
	return api.Msg4{
		Op: 1, Htype: 2, Hlen: 3, Hops: 4, Xid: 0x05060708, Secs: 0x090a, Flags: 0x0b0c,
		Client: 0x0d0e0f10, Your: 0x11121314, Server: 0x15161718, Relay: 0x191a1b1c,
		Hard: "hardware address", Name: rising(64), File: rising(256)[128:], Opts: list,
	}
}

// fullHead is its first bytes.
var fullHead = raw("01 02 03 04 05060708 090a 0b0c 0d0e0f10 11121314 15161718 191a1b1c") + "hardware address" + rising(64) + rising(256)[128:]

func same(a, b api.Msg4) bool {
	equal := slices.Equal(a.Opts, b.Opts)
	a.Opts, b.Opts = nil, nil
	return equal && whole(a) == whole(b)
}

// whole is all of a message but its options, as a value that can be compared.
func whole(m api.Msg4) [14]any {
	return [14]any{m.Op, m.Htype, m.Hlen, m.Hops, m.Xid, m.Secs, m.Flags, m.Client, m.Your, m.Server, m.Relay, m.Hard, m.Name, m.File}
}

// nothing is whether a message is the zero value.
func nothing(m api.Msg4) bool { return same(m, api.Msg4{}) }

// encodes fails unless m is a message, and its bytes are these.
func encodes(t *testing.T, what string, m api.Msg4, want string) {
	t.Helper()
	if !Sound(m) {
		t.Errorf("%s isn't sound", what)
	}
	if s, err := Encode(m); err != api.OK || s != want {
		t.Errorf("Encode of %s is %x, %d, not %x", what, s, err, want)
	}
}

// encodesNot fails unless Encode answers just an error; with ErrMessage m is none,
// else it is one.
func encodesNot(t *testing.T, what string, m api.Msg4, want api.Errno) {
	t.Helper()
	if Sound(m) != (want != api.ErrMessage) {
		t.Errorf("Sound of %s is %v", what, Sound(m))
	}
	if s, err := Encode(m); err != want || s != "" {
		t.Errorf("Encode of %s is %d bytes, %d, not %d", what, len(s), err, want)
	}
}

// decodes fails unless Decode of the bytes is the message.
func decodes(t *testing.T, what string, s string, want api.Msg4) {
	t.Helper()
	if m, err := Decode(s); err != api.OK || !same(m, want) {
		t.Errorf("Decode of %s is %x, %d, not %x", what, m, err, want)
	}
}

// decodesNot fails unless Decode answers just an error.
func decodesNot(t *testing.T, what string, s string, want api.Errno) {
	t.Helper()
	if m, err := Decode(s); err != want || !nothing(m) {
		t.Errorf("Decode of %s is %x, %d, not %d", what, m, err, want)
	}
}

// The chapter's examples

func TestExamples(t *testing.T) {
	m := Blank()
	m.Op = 1
	want := "\x01" + nulls(235) + mark + "\xff"
	if len(want) != 241 {
		t.Fatal(len(want))
	}
	encodes(t, "the first one", m, want)
	decodes(t, "the first one", want, m)
	head := want[:240]
	m.Opts = opts(opt(12, "a"))
	laden := head[:108] + laid(raw("0c 01 61 ff"), 128) + mark
	decodes(t, "an overload", laden+raw("34 01 01 ff"), m)
	decodesNot(t, "an overload of 4", laden+raw("34 01 04"), api.ErrOption)
	decodesNot(t, "an overload of two bytes", laden+raw("34 02 01 01"), api.ErrOption)
}

// P14.1

func TestSoundAndEncodeOfEachField(t *testing.T) {
	encodes(t, "all fields", full(opt(53, "\x05")), fullHead+mark+raw("35 01 05 ff"))
	encodes(t, "no field", Blank(), nulls(236)+mark+"\xff")
	for at := range 236 {
		for _, b := range []byte{1, 127, 128, 255} {
			m, s := Blank(), []byte(nulls(236))
			put(&m, at, b)
			s[at] = b
			encodes(t, "one byte", m, string(s)+mark+"\xff")
		}
	}
}

// put writes one byte of a head's place into a message's fields.
func put(m *api.Msg4, at int, b byte) {
	into32 := func(p *uint32, from int) { *p |= uint32(b) << (8 * (3 - (at - from))) }
	into16 := func(p *uint16, from int) { *p |= uint16(b) << (8 * (1 - (at - from))) }
	into := func(p *string, from int) { *p = (*p)[:at-from] + string([]byte{b}) + (*p)[at-from+1:] }
	switch {
	case at == 0:
		m.Op = b
	case at == 1:
		m.Htype = b
	case at == 2:
		m.Hlen = b
	case at == 3:
		m.Hops = b
	case at < 8:
		into32(&m.Xid, 4)
	case at < 10:
		into16(&m.Secs, 8)
	case at < 12:
		into16(&m.Flags, 10)
	case at < 16:
		into32(&m.Client, 12)
	case at < 20:
		into32(&m.Your, 16)
	case at < 24:
		into32(&m.Server, 20)
	case at < 28:
		into32(&m.Relay, 24)
	case at < 44:
		into(&m.Hard, 28)
	case at < 108:
		into(&m.Name, 44)
	default:
		into(&m.File, 108)
	}
}

func TestFieldsAtTheEndsOfTheirTypes(t *testing.T) {
	m := api.Msg4{
		Op: 255, Htype: 255, Hlen: 255, Hops: 255, Xid: 1<<32 - 1, Secs: 1<<16 - 1, Flags: 1<<16 - 1,
		Client: 1<<32 - 1, Your: 1<<32 - 1, Server: 1<<32 - 1, Relay: 1<<32 - 1,
		Hard: strings.Repeat("\xff", 16), Name: strings.Repeat("\xff", 64), File: strings.Repeat("\xff", 128),
	}
	s := strings.Repeat("\xff", 236) + mark + "\xff"
	encodes(t, "the greatest", m, s)
	decodes(t, "the greatest", s, m)
}

func TestSoundOfWrongLengths(t *testing.T) {
	for n := range 300 {
		for field, right := range []int{16, 64, 128} {
			m := Blank()
			at := []*string{&m.Hard, &m.Name, &m.File}[field]
			*at = rising(n)
			if n == right {
				if _, err := Encode(m); !Sound(m) || err != api.OK {
					t.Errorf("field %d of %d bytes: %v, %d", field, n, Sound(m), err)
				}
			} else {
				encodesNot(t, "a field of a wrong length", m, api.ErrMessage)
			}
		}
	}
	for i, m := range []api.Msg4{
		{}, {Op: 1}, {Hard: nulls(16)}, {Name: nulls(64)}, {File: nulls(128)},
		{Hard: nulls(16), Name: nulls(128), File: nulls(64)}, {Hard: nulls(64), Name: nulls(16), File: nulls(128)},
		{Hard: nulls(128), Name: nulls(64), File: nulls(16)}, {Hard: nulls(15), Name: nulls(65), File: nulls(128)},
		{Hard: nulls(16), Name: nulls(63), File: nulls(129)}, {Hard: nulls(17), Name: nulls(64), File: nulls(127)},
		{Hard: nulls(208)}, {Name: nulls(208)}, {File: nulls(208)},
		{Hard: nulls(1 << 20), Name: nulls(1 << 20), File: nulls(1 << 20)},
	} {
		if s, err := Encode(m); Sound(m) || s != "" || err != api.ErrMessage {
			t.Errorf("row %d: %v, %d bytes, %d", i, Sound(m), len(s), err)
		}
	}
}

func TestSoundOfOptions(t *testing.T) {
	for code := range 256 {
		for _, data := range []string{"", "\x01", "\x03", "ab", rising(300)} {
			m := message("", "", opt(byte(code), data))
			if code == 0 || code == 52 || code == 255 {
				encodesNot(t, "a code that can't be", m, api.ErrMessage)
			} else {
				encodes(t, "a code", m, nulls(236)+mark+pieces(byte(code), data, 255)+"\xff")
			}
			m.Opts = append(m.Opts, opt(byte(code), data))
			encodesNot(t, "a code twice", m, api.ErrMessage)
		}
	}
	encodes(t, "options that don't rise", full(opt(254, ""), opt(1, "a"), opt(51, "b"), opt(53, rising(256))),
		fullHead+mark+raw("fe 00 01 01 61 33 01 62")+pieces(53, rising(256), 255)+"\xff")
	encodes(t, "long data", message("", "", opt(43, rising(4096))), nulls(236)+mark+pieces(43, rising(4096), 255)+"\xff")
	for _, n := range []int{4097, 4098, 65536, 1 << 20} {
		encodesNot(t, "too long data", message("", "", opt(43, rising(n))), api.ErrMessage)
	}
}

func TestSoundOfManyOptions(t *testing.T) {
	list := codes(253)
	for _, n := range []int{127, 128} {
		encodes(t, "as many as may be", full(list[:n]...), fullHead+mark+bytesOf(list[:n])+"\xff")
	}
	for _, n := range []int{129, 130, 253} {
		encodesNot(t, "too many", full(list[:n]...), api.ErrMessage)
	}
	encodesNot(t, "too many that are wrong", full(make([]api.Opt4, 129)...), api.ErrMessage)
	for i := range 128 {
		for _, wrong := range opts(opt(52, "\x01"), opt(0, ""), opt(255, ""), opt(200, rising(4097))) {
			m := full(slices.Insert(slices.Clone(list[:127]), i, wrong)...)
			encodesNot(t, "a wrong one among right ones", m, api.ErrMessage)
		}
	}
}

// filling is options that have this many bytes in all, if it is 3 or more and no
// two codes' pieces can't have it.
func filling(size int) []api.Opt4 {
	const most = 4096 + 2*17
	var list []api.Opt4
	for code := byte(100); size > 0; code++ {
		take := min(size, most)
		if rest := size - take; rest > 0 && rest < 300 {
			take -= 300
		}
		n := take - 2*((take+256)/257)
		list = append(list, opt(code, rising(n)))
		size -= take
	}
	return list
}

func TestFilling(t *testing.T) {
	for _, size := range []int{3, 200, 257, 4000, 65266, 65267, 65010} {
		if got := len(bytesOf(filling(size))); got != size {
			t.Errorf("%d bytes of options instead of %d", got, size)
		}
	}
}

func TestEncodeOfLongMessages(t *testing.T) {
	for _, n := range []int{65000, 65505, 65506, 65507} {
		list := filling(n - 241)
		want := fullHead + mark + bytesOf(list) + "\xff"
		if len(want) != n {
			t.Fatalf("%d bytes instead of %d", len(want), n)
		}
		encodes(t, "a long one", full(list...), want)
		decodes(t, "a long one", want, full(list...))
	}
	for _, n := range []int{65508, 65509, 65600, 70000, 131072} {
		list := filling(n - 241)
		encodesNot(t, "too long", full(list...), api.ErrLong)
		m := full(list...)
		m.Hard += "x"
		encodesNot(t, "too long, and no message", m, api.ErrMessage)
		m = full(append(list, opt(52, ""))...)
		encodesNot(t, "too long, and an overload", m, api.ErrMessage)
		m = full(append(list, list[0])...)
		encodesNot(t, "too long, and a code twice", m, api.ErrMessage)
	}
	most := codes(128)
	for i := range most {
		most[i].Data = rising(4096)
	}
	encodesNot(t, "the most", full(most...), api.ErrLong)
}

// P14.2

func TestDecodeOfEachField(t *testing.T) {
	decodes(t, "all fields", fullHead+mark+raw("35 01 05 ff"), full(opt(53, "\x05")))
	decodes(t, "no field", nulls(236)+mark, Blank())
	for at := range 236 {
		for _, b := range []byte{1, 127, 128, 255} {
			m, s := Blank(), []byte(nulls(236))
			put(&m, at, b)
			s[at] = b
			decodes(t, "one byte", string(s)+mark+"\xff", m)
		}
	}
}

func TestDecodeOfAreas(t *testing.T) {
	for i, c := range []struct {
		behind string
		list   []api.Opt4
	}{
		{"", nil}, {"ff", nil}, {"00", nil}, {"00 00 00 ff", nil}, {"ff 0c 05", nil},
		{"35 01 01 ff", opts(opt(53, "\x01"))}, {"35 01 01", opts(opt(53, "\x01"))},
		{"00 35 01 01 00 00 ff 34 01 04", opts(opt(53, "\x01"))},
		{"0c 01 61 35 00 0c 01 62 ff", opts(opt(12, "ab"), opt(53, ""))},
		{"fe 00 01 02 ff 00 ff", opts(opt(254, ""), opt(1, "\xff\x00"))},
		{"33 01 01 35 01 02", opts(opt(51, "\x01"), opt(53, "\x02"))},
	} {
		want := full(c.list...)
		if m, err := Decode(fullHead + mark + raw(c.behind)); err != api.OK || !same(m, want) {
			t.Errorf("row %d: %x, %d", i, m, err)
		}
	}
}

// However Name and File may look, without an overload they are no areas.
func TestDecodeOfFieldsThatAreNoAreas(t *testing.T) {
	for _, field := range []string{"", "0c 01 61 ff", "0c ff", "34 01 03", "34 01 04 ff", "35", "ff", "34 02 00 00", "ff 34 01 01"} {
		s := raw(field)
		decodes(t, "two fields", datagram(s, s, "\x35\x01\x01\xff"), message(s, s, opt(53, "\x01")))
		decodes(t, "two fields, and no options", datagram(s, s, ""), message(s, s))
		decodes(t, "two fields, and an overload behind the end", datagram(s, s, "\xff\x34\x01\x03"), message(s, s))
	}
	decodes(t, "fields of bytes 12", strings.Repeat("\x0c", 236)+mark, api.Msg4{
		Op: 12, Htype: 12, Hlen: 12, Hops: 12, Xid: 0x0c0c0c0c, Secs: 0x0c0c, Flags: 0x0c0c,
		Client: 0x0c0c0c0c, Your: 0x0c0c0c0c, Server: 0x0c0c0c0c, Relay: 0x0c0c0c0c,
		Hard: strings.Repeat("\x0c", 16), Name: strings.Repeat("\x0c", 64), File: strings.Repeat("\x0c", 128),
	})
}

func TestDecodeOfWrongLengths(t *testing.T) {
	whole := fullHead + mark
	for n := range 240 {
		decodesNot(t, "a part", whole[:n], api.ErrShort)
		decodesNot(t, "as many bytes 0", nulls(n), api.ErrShort)
		decodesNot(t, "as many bytes 255", strings.Repeat("\xff", n), api.ErrShort)
		decodesNot(t, "as many bytes of the end", whole[240-n:], api.ErrShort)
	}
	decodes(t, "240 bytes", whole, full())
	for _, n := range []int{65251, 65252, 65506, 65507} {
		decodes(t, "bytes behind the end", whole+"\xff"+rising(n-241), full())
		decodes(t, "bytes 0", whole+nulls(n-240), full())
		list := filling(n - 240)
		decodes(t, "many options", whole+bytesOf(list), full(list...))
		decodesNot(t, "no cookie", nulls(n), api.ErrCookie)
		decodesNot(t, "an option that isn't whole", whole+nulls(n-241)+"\x0c", api.ErrShort)
	}
	for _, n := range []int{65508, 65509, 65536, 1 << 17, 1 << 20} {
		decodesNot(t, "too many bytes behind the end", whole+"\xff"+rising(n-241), api.ErrLong)
		decodesNot(t, "too many bytes 0", whole+nulls(n-240), api.ErrLong)
		decodesNot(t, "too many bytes, no cookie", nulls(n), api.ErrLong)
		decodesNot(t, "too many bytes, an option that isn't whole", whole+nulls(n-241)+"\x0c", api.ErrLong)
		decodesNot(t, "too many bytes, a wrong overload", whole+"\x34\x00"+nulls(n-242), api.ErrLong)
	}
}

func TestDecodeOfWrongCookies(t *testing.T) {
	for at := range 4 {
		for b := range 256 {
			cookie := []byte(mark)
			cookie[at] = byte(b)
			if string(cookie) == mark {
				continue
			}
			decodesNot(t, "another cookie", fullHead+string(cookie)+"\xff", api.ErrCookie)
			decodesNot(t, "another cookie, no options", fullHead+string(cookie), api.ErrCookie)
			decodesNot(t, "another cookie, a wrong area", fullHead+string(cookie)+"\x0c", api.ErrCookie)
			decodesNot(t, "another cookie, a wrong overload", fullHead+string(cookie)+"\x34\x00", api.ErrCookie)
		}
	}
	decodesNot(t, "the cookie turned", fullHead+"\x63\x53\x82\x63", api.ErrCookie)
	decodesNot(t, "the cookie a byte ahead", fullHead[1:]+mark+"\xff", api.ErrCookie)
	decodesNot(t, "the cookie a byte behind", fullHead+"\x00"+mark+"\xff", api.ErrCookie)
	decodesNot(t, "the cookie at the beginning", mark+fullHead+"\xff", api.ErrCookie)
}

func TestDecodeOfWrongAreas(t *testing.T) {
	head := fullHead + mark
	for _, short := range []string{"0c", "0c 01", "0c ff", "00 00 fe", "0c 01 61 35", "0c 01 61 35 02 01", "34", "34 01", "34 02 01", "34 01 01 0c", "34 01 04 0c", "34 00 0c 01", "34 01 03 34"} {
		decodesNot(t, "an option that isn't whole: "+short, head+raw(short), api.ErrShort)
	}
	list := codes(253)
	decodes(t, "as many options as may be", head+bytesOf(list[:128]), full(list[:128]...))
	decodes(t, "long data", head+pieces(43, rising(4096), 100), full(opt(43, rising(4096))))
	decodes(t, "very many pieces", head+strings.Repeat("\x0c\x00", 32633), full(opt(12, "")))
	for _, overload := range []string{"", "\x34\x00", "\x34\x01\x01", "\x34\x01\x04"} {
		decodesNot(t, "too many options", head+overload+bytesOf(list[:129]), api.ErrLong)
		decodesNot(t, "too long data", head+overload+pieces(43, rising(4097), 255), api.ErrLong)
		decodesNot(t, "too many options, and one that isn't whole", head+overload+bytesOf(list[:129])+"\x0c", api.ErrLong)
		decodesNot(t, "too many options behind one that isn't whole", head+overload+bytesOf(list[:127])+"\xfe\xff"+bytesOf(list[128:140]), api.ErrShort)
	}
	// An overload is one of the options, too.
	decodes(t, "127 options and an overload", datagram("", "", bytesOf(list[:127])+"\x34\x01\x03"), message("", "", list[:127]...))
	decodesNot(t, "128 options and an overload", datagram("", "", bytesOf(list[:128])+"\x34\x01\x03"), api.ErrLong)
	decodesNot(t, "an overload and 128 options", datagram("", "", "\x34\x01\x01"+bytesOf(list[:128])), api.ErrLong)
	decodesNot(t, "an overload of 4097 bytes", datagram("", "", pieces(52, rising(4097), 255)), api.ErrLong)
}

func TestDecodeOfOverloads(t *testing.T) {
	name, file := "\x0c\x01n\xff", "\x0d\x01f\xff"
	n, f := opt(12, "n"), opt(13, "f")
	wants := map[string]api.Msg4{
		"\x01": message(name, "", f),
		"\x02": message("", file, n),
		"\x03": message("", "", f, n),
	}
	for b := range 256 {
		data := string([]byte{byte(b)})
		want, right := wants[data]
		for _, overload := range []string{inBytes(52, data), "\x00" + inBytes(52, data), inBytes(52, "") + inBytes(52, data), inBytes(52, data) + "\x00" + inBytes(52, "") + "\xff\x34\x01\x05"} {
			s := datagram(name, file, overload)
			if right {
				decodes(t, "an overload", s, want)
			} else {
				decodesNot(t, "a wrong overload", s, api.ErrOption)
			}
		}
	}
	for _, data := range []string{"", "\x01\x01", "\x01\x02", "\x00\x01", "\x01\x00", "\x03\x03\x03", rising(255), strings.Repeat("\x01", 256), strings.Repeat("\x01", 4096)} {
		decodesNot(t, "an overload of no or more bytes", datagram(name, file, pieces(52, data, 255)), api.ErrOption)
		decodesNot(t, "an overload in pieces", datagram(name, file, pieces(52, data, 1)), api.ErrOption)
		decodesNot(t, "an overload among others", datagram(name, file, "\x35\x01\x01"+pieces(52, data, 255)+"\x36\x00\xff"), api.ErrOption)
	}
	decodesNot(t, "an overload twice", datagram(name, file, "\x34\x01\x01\x35\x01\x01\x34\x01\x01\xff"), api.ErrOption)
}

// The areas stand in the order: behind the cookie, File, Name; the overload may be
// anywhere in the first one.
func TestDecodeOfOptionsInThreeAreas(t *testing.T) {
	name, file := "\x0c\x02n1\x00\x01\x01n\xff\x35", "\x01\x01f\x0c\x02f1\x02\x00\xff\x35\x01\x09"
	for _, behind := range []string{"\x34\x01%\x0c\x02o1\x03\x01o", "\x0c\x02o1\x34\x01%\x03\x01o\xff", "\x00\x0c\x02o1\x00\x03\x01o\x00\x34\x01%\xff\x34\x01\x00"} {
		both := strings.Replace(behind, "%", "\x03", 1)
		decodes(t, "both", datagram(name, file, both), message("", "", opt(12, "o1f1n1"), opt(3, "o"), opt(1, "fn"), opt(2, "")))
		one := strings.Replace(behind, "%", "\x01", 1)
		decodes(t, "File", datagram(name, file, one), message(name, "", opt(12, "o1f1"), opt(3, "o"), opt(1, "f"), opt(2, "")))
		two := strings.Replace(behind, "%", "\x02", 1)
		decodes(t, "Name", datagram(name, file, two), message("", file, opt(12, "o1n1"), opt(3, "o"), opt(1, "n")))
	}
	m := full(opt(12, "f"), opt(13, "n"))
	m.Name, m.File = nulls(64), nulls(128)
	decodes(t, "the other fields stay", fullHead[:44]+laid("\x0d\x01n", 64)+laid("\x0c\x01f", 128)+mark+"\x34\x01\x03", m)
	decodes(t, "areas without options", datagram("", "", "\x34\x01\x03"), message("", ""))
	decodes(t, "areas that end at once", datagram("\xff\x0c", "\xff\x0c", "\x34\x01\x03\xff\x0c"), message("", ""))
	decodes(t, "areas without an end", datagram(inBytes(12, rising(62)), inBytes(13, rising(126)), "\x34\x01\x03"), message("", "", opt(13, rising(126)), opt(12, rising(62))))
	decodes(t, "an area that is bytes 0 up to its last option", datagram(nulls(62)+"\x0c\x00", nulls(125)+"\x0d\x01f", "\x34\x01\x03"), message("", "", opt(13, "f"), opt(12, "")))
}

// An overload that stands in File or Name says nothing, whatever it holds.
func TestDecodeOfOverloadsInFields(t *testing.T) {
	for _, data := range []string{"", "\x00", "\x01", "\x02", "\x03", "\x04", "ab", rising(59)} {
		field := inBytes(52, data)
		decodes(t, "in File", datagram("\x0c\x01n", field+"\x0d\x01f", "\x34\x01\x01"), message("\x0c\x01n", "", opt(13, "f")))
		decodes(t, "in Name", datagram(field+"\x0c\x01n", "\x0d\x01f", "\x34\x01\x02"), message("", "\x0d\x01f", opt(12, "n")))
		decodes(t, "in both", datagram(field+"\x0c\x01n", field+"\x0d\x01f", "\x34\x01\x03\xff"), message("", "", opt(13, "f"), opt(12, "n")))
		decodes(t, "in File, but none behind the cookie", datagram("\x0c\x01n", field, "\x35\x01\x01"), message("\x0c\x01n", field, opt(53, "\x01")))
		decodes(t, "in File, which is none", datagram("\x0c\x01n", field, "\x34\x01\x02"), message("", field, opt(12, "n")))
	}
}

func TestDecodeOfWrongAreasInFields(t *testing.T) {
	right := "\x0d\x01r\xff"
	short := []string{"\x0c\xff", nulls(62) + "\x0c\x01", nulls(63) + "\x0c", inBytes(12, rising(61)) + "\x01", inBytes(12, rising(60)) + "\x34\x01", "\x34\xff"}
	for _, field := range short {
		decodesNot(t, "Name", datagram(field, right, "\x34\x01\x02"), api.ErrShort)
		decodesNot(t, "Name of both", datagram(field, right, "\x34\x01\x03\xff"), api.ErrShort)
		decodes(t, "Name, which is none", datagram(field, right, "\x34\x01\x01"), message(field, "", opt(13, "r")))
		decodesNot(t, "File", datagram(right, nulls(64)+field, "\x34\x01\x01"), api.ErrShort)
		decodesNot(t, "File of both", datagram(right, nulls(64)+field, "\x34\x01\x03\xff"), api.ErrShort)
		decodes(t, "File, which is none", datagram(right, nulls(64)+field, "\x34\x01\x02"), message("", nulls(64)+field, opt(13, "r")))
		decodesNot(t, "with a wrong overload", datagram(field, field, "\x34\x01\x04"), api.ErrOption)
		decodesNot(t, "with an overload without data", datagram(field, field, "\x34\x00"), api.ErrOption)
	}
	// An option doesn't go on in the next area.
	decodesNot(t, "an option across two areas", datagram("\x01a", nulls(127)+"\x0c", "\x34\x01\x03"), api.ErrShort)
	decodesNot(t, "an option from the cookie's area on", datagram("", "\x01a", "\x34\x01\x01\x0c"), api.ErrShort)
}

func TestDecodeOfTooMuchInAllAreas(t *testing.T) {
	list := codes(140)
	over := func(which string) string { return "\x34\x01" + which }
	decodes(t, "128 options in three areas", datagram(bytesOf(list[107:127]), bytesOf(list[97:107]), over("\x03")+bytesOf(list[:97])), message("", "", list[:127]...))
	decodesNot(t, "129 options in three areas", datagram(bytesOf(list[108:128]), bytesOf(list[98:108]), over("\x03")+bytesOf(list[:98])), api.ErrLong)
	decodesNot(t, "129 options in two areas", datagram("", bytesOf(list[98:128]), over("\x01")+bytesOf(list[:98])), api.ErrLong)
	decodes(t, "129 options, one behind an end", datagram("\xff"+bytesOf(list[127:128]), bytesOf(list[97:127]), over("\x03")+bytesOf(list[:97])), message("", "", list[:127]...))
	long := rising(4096)
	behind := over("\x03") + pieces(43, long[:4000], 255)
	decodes(t, "4096 bytes in three areas", datagram(inBytes(43, long[4060:]), inBytes(43, long[4000:4060]), behind), message("", "", opt(43, long)))
	decodesNot(t, "4097 bytes in three areas", datagram(inBytes(43, long[4060:]+"x"), inBytes(43, long[4000:4060]), behind), api.ErrLong)
	decodesNot(t, "4097 bytes in two areas", datagram("", inBytes(43, long[4000:]+"x"), behind), api.ErrLong)
	// Of the faults of all areas together the first one is told.
	decodesNot(t, "too long, then not whole", datagram("\x0c\xff", inBytes(43, long[4000:]+"x"), behind), api.ErrLong)
	decodesNot(t, "not whole, then too long", datagram(inBytes(43, "x"), inBytes(43, long[4000:])+"\x0c\xff", behind), api.ErrShort)
	// A further overload in a field is no option more.
	decodes(t, "an overload again", datagram(inBytes(52, rising(50)), strings.Repeat(inBytes(52, rising(60)), 2), over("\x03")+bytesOf(list[:127])), message("", "", list[:127]...))
}

// P14.3

func TestDecodeOfEncode(t *testing.T) {
	for _, list := range [][]api.Opt4{nil, codes(1), codes(52), codes(127), codes(128), opts(opt(254, ""), opt(1, rising(4096)), opt(43, rising(255))), filling(65266)} {
		for _, m := range []api.Msg4{full(list...), message("name", "file", list...), message("\x0c\x01a\xff", "\x34\x01\x03", list...)} {
			s, err := Encode(m)
			if err != api.OK {
				t.Fatalf("Encode is %d", err)
			}
			decodes(t, "what Encode gives", s, m)
		}
	}
	for n := range 4097 {
		m := full(opt(43, rising(n)), opt(44, ""))
		s, _ := Encode(m)
		decodes(t, "each length", s, m)
	}
}

// checkTaken fails unless what Decode takes is a message that Encode takes and that
// is read again as the same.
func checkTaken(t *testing.T, what string, s string) {
	t.Helper()
	m, err := Decode(s)
	if err != api.OK || !Sound(m) {
		t.Fatalf("%s: Decode is %d, and %v", what, err, Sound(m))
	}
	again, err := Encode(m)
	if err != api.OK {
		t.Fatalf("%s: Encode is %d", what, err)
	}
	decodes(t, what, again, m)
}

func TestEncodeOfDecode(t *testing.T) {
	const most = 65507 - 256
	tail := bytesOf(filling(most - 243))
	checkTaken(t, "the longest", datagram(inBytes(90, rising(62)), inBytes(91, rising(126)), "\x34\x01\x03"+tail))
	checkTaken(t, "the longest, with data that go on in the fields", datagram(inBytes(115, rising(62)), inBytes(115, rising(126)), "\x34\x01\x03"+tail))
	checkTaken(t, "the longest, without areas in the fields", datagram("\x0c\xff", "\x0c\xff", bytesOf(filling(most-240))))
	short := ""
	for code := range 32 {
		short += inBytes(byte(code+1), "")
	}
	checkTaken(t, "the longest, with many codes in a field", datagram(short, strings.Repeat("\x00\x00\x00\xc8\x01x", 21), "\x34\x01\x03"+tail))
	// Beyond that length what is read is a message still, if one that is too long now and then.
	long := datagram("", "", bytesOf(filling(65507-240)))
	m, err := Decode(long)
	if err != api.OK {
		t.Fatal(err)
	}
	encodesNot(t, "the greatest without an end", m, api.ErrLong)
}

// P14.4

func TestBlank(t *testing.T) {
	want := api.Msg4{Hard: nulls(16), Name: nulls(64), File: nulls(128)}
	m := Blank()
	if !same(m, want) || len(m.Opts) != 0 {
		t.Errorf("Blank is %x", m)
	}
	m.Op, m.Hard, m.Opts = 1, "other", append(m.Opts, opt(12, "a"))
	if again := Blank(); !same(again, want) {
		t.Errorf("Blank is %x behind a change", again)
	}
}

// markOpt stands in the spare room of a list of options.
var markOpt = opt(99, "mark")

// roomy is a list with spare room behind it, in which marks stand.
func roomy(list []api.Opt4) []api.Opt4 {
	return append(slices.Clone(list), markOpt, markOpt, markOpt)[:len(list)]
}

func everything(list []api.Opt4) []api.Opt4 { return slices.Clone(list[:cap(list)]) }

func spoil(list []api.Opt4) {
	for i := range list[:cap(list)] {
		list[:cap(list)][i] = opt(66, "spoilt")
	}
}

func TestNothingIsChangedOrShared(t *testing.T) {
	for _, list := range [][]api.Opt4{nil, codes(1), codes(5), codes(128), codes(129), opts(opt(12, ""), opt(12, "")), opts(opt(52, "\x01"), opt(1, "a")), opts(opt(3, rising(600)), opt(1, "a"))} {
		m := full(roomy(list)...)
		before := everything(m.Opts)
		sound := Sound(m)
		first, err := Encode(m)
		if !slices.Equal(everything(m.Opts), before) || m.Hard != "hardware address" {
			t.Errorf("what is handed in is changed: %v", before)
		}
		spoil(m.Opts)
		m.Opts = list
		if again, same := Encode(m); again != first || same != err || Sound(m) != sound {
			t.Errorf("Encode answers two things of %v", list)
		}
	}
	for _, s := range []string{datagram("", "", "\x0c\x01a\x0d\x01b"), datagram("\x0c\x01n", "\x0d\x01f", "\x34\x01\x03\x0e\x01b"), datagram("", "", bytesOf(codes(128)))} {
		first, _ := Decode(s)
		want := slices.Clone(first.Opts)
		second, _ := Decode(s)
		spoil(first.Opts)
		if !slices.Equal(second.Opts, want) {
			t.Errorf("two answers of Decode share memory: %v", want)
		}
	}
}
