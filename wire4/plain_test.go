package wire4

import (
	"encoding/binary"
	"math/rand"
	"slices"
	"testing"

	"tenancy/api"
	"tenancy/opt4"
)

// A second writing of the chapter's words, by the library's binary numbers and the
// places of the fields.

func plainSound(m api.Msg4) bool {
	seen := map[byte]int{0: 1, 52: 1, 255: 1}
	for _, o := range m.Opts {
		if seen[o.Code] > 0 || len(o.Data) > 4096 {
			return false
		}
		seen[o.Code]++
	}
	return len(m.Opts) <= 128 && len(m.Hard) == 16 && len(m.Name) == 64 && len(m.File) == 128
}

func plainEncode(m api.Msg4) (string, api.Errno) {
	if !plainSound(m) {
		return "", api.ErrMessage
	}
	s := []byte{m.Op, m.Htype, m.Hlen, m.Hops}
	s = binary.BigEndian.AppendUint32(s, m.Xid)
	s = binary.BigEndian.AppendUint16(s, m.Secs)
	s = binary.BigEndian.AppendUint16(s, m.Flags)
	for _, n := range []uint32{m.Client, m.Your, m.Server, m.Relay} {
		s = binary.BigEndian.AppendUint32(s, n)
	}
	s = append(s, m.Hard+m.Name+m.File+"\x63\x82\x53\x63"+bytesOf(m.Opts)+"\xff"...)
	if len(s) > 65507 {
		return "", api.ErrLong
	}
	return string(s), api.OK
}

func plainDecode(s string) (api.Msg4, api.Errno) {
	switch {
	case len(s) > 65507:
		return api.Msg4{}, api.ErrLong
	case len(s) < 240:
		return api.Msg4{}, api.ErrShort
	case s[236] != 0x63 || s[237] != 0x82 || s[238] != 0x53 || s[239] != 0x63:
		return api.Msg4{}, api.ErrCookie
	}
	b := []byte(s)
	m := api.Msg4{
		Op: b[0], Htype: b[1], Hlen: b[2], Hops: b[3],
		Xid:    binary.BigEndian.Uint32(b[4:]),
		Secs:   binary.BigEndian.Uint16(b[8:]),
		Flags:  binary.BigEndian.Uint16(b[10:]),
		Client: binary.BigEndian.Uint32(b[12:]),
		Your:   binary.BigEndian.Uint32(b[16:]),
		Server: binary.BigEndian.Uint32(b[20:]),
		Relay:  binary.BigEndian.Uint32(b[24:]),
		Hard:   s[28:44], Name: s[44:108], File: s[108:236],
	}
	list, err := opt4.Parse(s[240:])
	if err != api.OK {
		return api.Msg4{}, err
	}
	list, err = plainLaden(&m, s[240:], list)
	if err != api.OK {
		return api.Msg4{}, err
	}
	m.Opts = nil
	for _, o := range list {
		if o.Code != 52 {
			m.Opts = append(m.Opts, o)
		}
	}
	return m, api.OK
}

// plainLaden is the options of all areas, and takes those in the fields out of them.
func plainLaden(m *api.Msg4, behind string, list []api.Opt4) ([]api.Opt4, api.Errno) {
	over := -1
	for _, o := range list {
		if o.Code != 52 {
			continue
		}
		if len(o.Data) != 1 || o.Data[0] < 1 || o.Data[0] > 3 {
			return nil, api.ErrOption
		}
		over = int(o.Data[0])
	}
	file, name := "", ""
	if over == 1 || over == 3 {
		file, m.File = m.File, nulls(128)
	}
	if over == 2 || over == 3 {
		name, m.Name = m.Name, nulls(64)
	}
	return opt4.Parse(behind, file, name)
}

// checkDecode fails unless Decode is as the second writing tells; what it takes is a
// message and, if it isn't too long, read again as the same when it is written anew.
func checkDecode(t *testing.T, s string) api.Errno {
	t.Helper()
	m, err := Decode(s)
	want, wantErr := plainDecode(s)
	if err != wantErr || !same(m, want) {
		t.Fatalf("Decode(%x) is %x, %d, not %x, %d", s, m, err, want, wantErr)
	}
	if err != api.OK {
		return err
	}
	if code := checkEncode(t, m); code != api.OK && len(s) <= 65507-256 {
		t.Fatalf("Encode of Decode(%x) is %d", s, code)
	}
	return api.OK
}

// checkEncode fails unless Sound and Encode are as the second writing tells, and
// Decode of it the message.
func checkEncode(t *testing.T, m api.Msg4) api.Errno {
	t.Helper()
	if Sound(m) != plainSound(m) {
		t.Fatalf("Sound(%x) is %v", m, Sound(m))
	}
	s, err := Encode(m)
	want, wantErr := plainEncode(m)
	if err != wantErr || s != want {
		t.Fatalf("Encode(%x) is %x, %d, not %x, %d", m, s, err, want, wantErr)
	}
	if err != api.OK {
		return err
	}
	if again, err := Decode(s); err != api.OK || !same(again, m) {
		t.Fatalf("Decode of Encode(%x) is %x, %d", m, again, err)
	}
	return api.OK
}

func noise(n int, random *rand.Rand) string {
	list := make([]byte, n)
	random.Read(list)
	return string(list)
}

// tally counts the answers, so that a test can ask that it has seen each.
type tally map[api.Errno]int

func (c tally) saw(t *testing.T, least int, errs ...api.Errno) {
	t.Helper()
	for _, err := range errs {
		if c[err] < least {
			t.Errorf("%d was answered %d times only", err, c[err])
		}
	}
}

// P14.2

// All areas of up to three telling bytes in the fields, and of up to two behind the cookie.
func TestAllShortAreas(t *testing.T) {
	letters := []byte{0, 1, 2, 12, 52, 255}
	rows := []string{""}
	for at := 0; at < len(rows) && len(rows[at]) < 3; at++ {
		for _, b := range letters {
			rows = append(rows, rows[at]+string([]byte{b}))
		}
	}
	seen := tally{}
	for _, behind := range rows[:1+6+36] {
		for _, over := range []string{"", "\x34\x01\x01", "\x34\x01\x02", "\x34\x01\x03", "\x34\x01\x00", "\x34\x00"} {
			for _, field := range rows {
				seen[checkDecode(t, datagram(field, field, over+behind))]++
				seen[checkDecode(t, datagram(field, nulls(128-len(field))+field, behind+over))]++
				seen[checkDecode(t, datagram(nulls(64-len(field))+field, behind, over))]++
			}
		}
	}
	seen.saw(t, 10000, api.OK, api.ErrShort, api.ErrOption)
}

func TestAllShortAreasBehindTheCookie(t *testing.T) {
	letters := []byte{0, 1, 2, 3, 52, 255}
	var grow func(area []byte)
	grow = func(area []byte) {
		checkDecode(t, datagram("\x0c\x01n", "\x0c\x01f", string(area)))
		if len(area) == 6 {
			return
		}
		for _, b := range letters {
			grow(append(slices.Clone(area), b))
		}
	}
	grow(nil)
}

// someArea is at most so many bytes: options of few or many codes, bytes 0 between
// them, now and then an end, cut off, or with one byte changed.
func someArea(most int, random *rand.Rand) string {
	few, much := 1+random.Intn(254), random.Intn(min(most, 256))
	s := ""
	for random.Intn(60) > 0 {
		next := inBytes(byte(1+random.Intn(few)), noise(random.Intn(much+1), random))
		if random.Intn(6) == 0 {
			next += nulls(random.Intn(4))
		}
		if len(s)+len(next) > most {
			break
		}
		s += next
	}
	switch random.Intn(8) {
	case 0, 1:
		if len(s) < most {
			s += "\xff"
		}
	case 2:
		s = s[:random.Intn(len(s)+1)]
	case 3:
		if s != "" {
			at := random.Intn(len(s))
			s = s[:at] + noise(1, random) + s[at+1:]
		}
	}
	return s
}

func someOverload(random *rand.Rand) string {
	switch random.Intn(8) {
	case 0, 1:
		return ""
	case 2:
		return inBytes(52, noise(random.Intn(3), random))
	default:
		return inBytes(52, string([]byte{byte(1 + random.Intn(3))}))
	}
}

func TestDecodeOfSomeDatagrams(t *testing.T) {
	random := rand.New(rand.NewSource(14))
	seen := tally{}
	for range 4000 {
		head := noise(44, random) + laid(someArea(64, random), 64) + laid(someArea(128, random), 128)
		behind := someArea(66000, random)
		if random.Intn(8) == 0 {
			behind += behind + behind
		}
		if random.Intn(2) == 0 {
			behind = someOverload(random) + behind
		} else {
			behind += someOverload(random)
		}
		seen[checkDecode(t, head+mark+behind)]++
	}
	seen.saw(t, 50, api.OK, api.ErrShort, api.ErrOption, api.ErrLong)
}

func TestDecodeOfNoise(t *testing.T) {
	random := rand.New(rand.NewSource(15))
	seen := tally{}
	for range 20000 {
		s := []byte(noise(200+random.Intn(200), random))
		if len(s) > 240 && random.Intn(8) > 0 {
			copy(s[236:], mark)
		}
		// Small numbers are lengths that fit now and then.
		for i := range s {
			if (i < 236 || i >= 240) && random.Intn(6) > 0 {
				s[i] %= 4
			}
		}
		if len(s) > 244 && random.Intn(2) == 0 {
			copy(s[240:], someOverload(random)+"\xff"[:random.Intn(2)])
		}
		seen[checkDecode(t, string(s))]++
	}
	seen.saw(t, 300, api.OK, api.ErrShort, api.ErrCookie, api.ErrOption)
}

// Every byte of some datagrams changed, and every cut of them.
func TestDecodeOfChangedDatagrams(t *testing.T) {
	for _, whole := range []string{
		datagram("\x0c\x01n\xff", "\x0d\x01f\xff", "\x34\x01\x03\x35\x01\x01\x0c\x02ab\xff"),
		datagram("\x0c\x01n\xff", "\x0d\x01f\xff", "\x35\x01\x01\x00\x34\x01\x01"),
		fullHead + mark + "\x35\x01\x01\x34\x00\x34\x01\x02\xff\x0c",
	} {
		for cut := range whole {
			checkDecode(t, whole[:cut])
			for b := range 256 {
				if cut < 236 && b%16 > 3 && b != 0x34 && b != 255 {
					continue
				}
				checkDecode(t, whole[:cut]+string([]byte{byte(b)})+whole[cut+1:])
			}
		}
	}
}

// P14.1 and P14.3

// someMessage is a message or, by chance, one with a field of a wrong length, with a
// code that can't be or that is there twice, with too much data, or with too many options.
func someMessage(random *rand.Rand) api.Msg4 {
	m := api.Msg4{
		Op: byte(random.Uint32()), Htype: byte(random.Uint32()), Hlen: byte(random.Uint32()), Hops: byte(random.Uint32()),
		Xid: random.Uint32(), Secs: uint16(random.Uint32()), Flags: uint16(random.Uint32()),
		Client: random.Uint32(), Your: random.Uint32(), Server: random.Uint32(), Relay: random.Uint32(),
		Hard: noise(16, random), Name: noise(64, random), File: noise(128, random),
	}
	all := random.Perm(254)
	m.Opts = make([]api.Opt4, random.Intn(134))
	much, often := 1+random.Intn(4096), 2+random.Intn(5)
	for i := range m.Opts {
		n := random.Intn(6)
		if random.Intn(often) == 0 {
			n = random.Intn(much)
		}
		m.Opts[i] = opt(byte(all[i]+1), noise(n, random))
		if m.Opts[i].Code == 52 && random.Intn(4) > 0 {
			m.Opts[i].Code = byte(all[253] + 1)
		}
	}
	if random.Intn(4) == 0 {
		spoilt := []*string{&m.Hard, &m.Name, &m.File}[random.Intn(3)]
		*spoilt = noise(len(*spoilt)-1+random.Intn(3), random)
	}
	if len(m.Opts) > 0 && random.Intn(3) == 0 {
		o := &m.Opts[random.Intn(len(m.Opts))]
		switch random.Intn(3) {
		case 0:
			o.Code = []byte{0, 52, 255}[random.Intn(3)]
		case 1:
			o.Code = m.Opts[random.Intn(len(m.Opts))].Code
		case 2:
			o.Data = noise(4094+random.Intn(6), random)
		}
	}
	return m
}

func TestEncodeOfSomeMessages(t *testing.T) {
	random := rand.New(rand.NewSource(16))
	seen := tally{}
	for range 3000 {
		seen[checkEncode(t, someMessage(random))]++
	}
	seen.saw(t, 50, api.OK, api.ErrMessage, api.ErrLong)
}
