package wire6

import (
	"encoding/binary"
	"math/rand"
	"slices"
	"testing"

	"tenancy/api"
	"tenancy/opt6"
)

// A second writing of the chapter's words, by the library's binary numbers; of
// identity associations chapter 15's calls tell.

func plainSound(m api.Msg6) bool {
	right := m.Type > 0 && m.Type < 12 && m.Xid>>24 == 0 && len(m.Client) < 131 && len(m.Server) < 131 &&
		len(m.IAs) < 9 && m.Code > -2 && m.Code < 1<<16 && slices.Contains([]int{0, 5, 6, 11}, m.Again)
	count := len(m.IAs) + len(m.Opts)
	for _, there := range []bool{m.Client != "", m.Server != "", m.Code != -1, m.Rapid, m.Accept, m.Again != 0} {
		if there {
			count++
		}
	}
	for _, a := range m.IAs {
		right = right && opt6.Sound(a)
	}
	for _, o := range m.Opts {
		right = right && len(o.Data) < 1<<16 && !slices.Contains(own, o.Code)
	}
	return right && count < 129
}

func plainEncode(m api.Msg6) (string, api.Errno) {
	if !plainSound(m) {
		return "", api.ErrMessage
	}
	s := num32(m.Xid)
	s = string([]byte{byte(m.Type)}) + s[1:]
	if len(m.Client) > 0 {
		s += inBytes(1, m.Client)
	}
	if len(m.Server) > 0 {
		s += inBytes(2, m.Server)
	}
	if m.Code >= 0 {
		s += inBytes(13, num16(m.Code))
	}
	if m.Rapid {
		s += inBytes(14, "")
	}
	if m.Accept {
		s += inBytes(20, "")
	}
	if m.Again > 0 {
		s += inBytes(19, char(m.Again))
	}
	for _, a := range m.IAs {
		o, _ := opt6.PutIA(a)
		s += inBytes(o.Code, o.Data)
	}
	s += bytesOf(m.Opts)
	if len(s) > 65507 {
		return "", api.ErrLong
	}
	return s, api.OK
}

// plainWrong is the fault of the last of some options that stand one behind the
// other, if those ahead of it have none.
func plainWrong(list []api.Opt6) api.Errno {
	last := list[len(list)-1]
	data := last.Data
	count, held := 0, 0
	for _, o := range list {
		if o.Code == last.Code {
			count++
		}
		if o.Code == 3 || o.Code == 4 || o.Code == 25 {
			held++
		}
	}
	wrong := false
	switch last.Code {
	case 1, 2:
		wrong = count > 1 || len(data) < 1 || len(data) > 130
	case 13:
		wrong = count > 1 || len(data) < 2
	case 14, 20:
		wrong = count > 1 || len(data) > 0
	case 19:
		wrong = count > 1 || data != "\x05" && data != "\x06" && data != "\x0b"
	case 3, 4, 25:
		if held > 8 {
			return api.ErrLong
		}
		_, err := opt6.GetIA(last)
		return err
	}
	if wrong {
		return api.ErrOption
	}
	return api.OK
}

func plainDecode(s string) (api.Msg6, api.Errno) {
	if len(s) > 65507 {
		return api.Msg6{}, api.ErrLong
	}
	if len(s) < 4 {
		return api.Msg6{}, api.ErrShort
	}
	b := []byte(s)
	if b[0] == 0 || b[0] > 11 {
		return api.Msg6{}, api.ErrMessage
	}
	list, err := opt6.Parse(s[4:])
	if err != api.OK {
		return api.Msg6{}, err
	}
	for n := range list {
		if err := plainWrong(list[:n+1]); err != api.OK {
			return api.Msg6{}, err
		}
	}
	m := api.Msg6{Type: int(b[0]), Xid: binary.BigEndian.Uint32(b) & 0xffffff, Code: -1}
	for _, o := range list {
		switch o.Code {
		case 1:
			m.Client = o.Data
		case 2:
			m.Server = o.Data
		case 13:
			m.Code = int(o.Data[0])*256 + int(o.Data[1])
		case 14:
			m.Rapid = true
		case 20:
			m.Accept = true
		case 19:
			m.Again = int(o.Data[0])
		case 3, 4, 25:
			a, _ := opt6.GetIA(o)
			m.IAs = append(m.IAs, a)
		default:
			m.Opts = append(m.Opts, o)
		}
	}
	return m, api.OK
}

// checkEncode fails unless Sound and Encode are as the second writing tells, and
// Decode of the bytes the message.
func checkEncode(t *testing.T, m api.Msg6) api.Errno {
	t.Helper()
	s, err := Encode(m)
	want, wantErr := plainEncode(m)
	if err != wantErr || s != want || Sound(m) != (err != api.ErrMessage) {
		t.Fatalf("Encode(%#v) is %x, %d, not %x, %d", m, s, err, want, wantErr)
	}
	if err != api.OK {
		return err
	}
	if again, err := Decode(s); err != api.OK || !same(again, m) {
		t.Fatalf("Decode of Encode(%#v) is %#v, %d", m, again, err)
	}
	return api.OK
}

// checkDecode fails unless Decode is as the second writing tells; what it takes is
// a message that Encode takes, and that is read again as the same.
func checkDecode(t *testing.T, s string) api.Errno {
	t.Helper()
	m, err := Decode(s)
	want, wantErr := plainDecode(s)
	if err != wantErr || !same(m, want) {
		t.Fatalf("Decode(%x) is %#v, %d, not %#v, %d", s, m, err, want, wantErr)
	}
	if err != api.OK {
		return err
	}
	if code := checkEncode(t, m); code != api.OK {
		t.Fatalf("Encode of Decode(%x) is %d", s, code)
	}
	return api.OK
}

func noise(n int, random *rand.Rand) string {
	list := make([]byte, n)
	random.Read(list)
	return string(list)
}

// tally counts the answers, so that a test can ask that it has seen each.
type tally map[api.Errno]int

func (c tally) saw(t *testing.T, least int, errs ...api.Errno) {
	t.Helper()
	for _, err := range errs {
		if c[err] < least {
			t.Errorf("%d was answered %d times only", err, c[err])
		}
	}
}

// P16.1 and P16.3

// rarely is one of some wrong numbers, by chance, else one of the right ones.
func rarely(random *rand.Rand, right, wrong []int) int {
	if random.Intn(80) == 0 {
		return wrong[random.Intn(len(wrong))]
	}
	return right[random.Intn(len(right))]
}

func someHas(kind int, random *rand.Rand) api.Inner {
	i := api.Inner{Pref: random.Uint32(), Valid: random.Uint32(), Code: rarely(random, []int{-1, -1, 0, 2, 65535}, []int{-2, 65536})}
	i.What = one(random.Uint64(), random.Uint64())
	if kind == api.Deleg {
		i.What = api.Prefix{Addr: api.Addr{Hi: random.Uint64() << 20}, Bits: rarely(random, []int{44, 64, 128}, []int{-1, 10, 129})}
	}
	return i
}

func someIA(random *rand.Rand) api.IA {
	a := api.IA{Kind: rarely(random, []int{2, 3, 4}, []int{0, 1, 5, -1}), Iaid: random.Uint32(), Code: rarely(random, []int{-1, -1, 3, 258}, []int{-2, 65536})}
	if a.Kind != api.Temp || random.Intn(100) == 0 {
		a.T1, a.T2 = random.Uint32(), random.Uint32()
	}
	for range rarely(random, []int{0, 1, 2, 8}, []int{9, 10}) {
		a.Has = append(a.Has, someHas(a.Kind, random))
	}
	return a
}

func someOpts(random *rand.Rand) []api.Opt6 {
	var list []api.Opt6
	count := random.Intn(6)
	if random.Intn(3) == 0 {
		count = 112 + random.Intn(20)
	}
	for range count {
		o := opt(uint16(random.Intn(1<<16)), noise(random.Intn(20), random))
		if random.Intn(4) == 0 {
			o.Code = uint16(random.Intn(40))
		}
		if slices.Contains(own, o.Code) && random.Intn(100) > 0 {
			o.Code += 40
		}
		list = append(list, o)
	}
	if len(list) > 0 && random.Intn(8) == 0 {
		list[random.Intn(len(list))].Data = nulls(rarely(random, []int{1000, 65400, 65499, 65500, 65535}, []int{65536, 65537}))
	}
	return list
}

func someMessage(random *rand.Rand) api.Msg6 {
	m := api.Msg6{
		Type: rarely(random, []int{1, 2, 3, 4, 5, 6, 7, 8, 9, 10, 11}, []int{-1, 0, 12, 13, 257}),
		Xid:  random.Uint32() >> rarely(random, []int{8, 8, 16, 31}, []int{0, 7}),
		Code: rarely(random, []int{-1, 0, 1, 255, 256, 65535}, []int{-2, 65536, 1 << 32}), Again: rarely(random, []int{0, 5, 6, 11}, []int{-1, 1, 4, 7, 10, 12, 261}),
		Client: noise(rarely(random, []int{0, 1, 10, 130}, []int{131, 200}), random), Server: noise(rarely(random, []int{0, 1, 14, 130}, []int{131, 65536}), random),
		Rapid: random.Intn(2) == 0, Accept: random.Intn(2) == 0, Opts: someOpts(random),
	}
	for range rarely(random, []int{0, 0, 1, 2, 3, 8}, []int{9, 10}) {
		m.IAs = append(m.IAs, someIA(random))
	}
	return m
}

func TestEncodeOfSomeMessages(t *testing.T) {
	random := rand.New(rand.NewSource(16))
	seen := tally{}
	for range 20000 {
		seen[checkEncode(t, someMessage(random))]++
	}
	seen.saw(t, 500, api.OK, api.ErrMessage, api.ErrLong)
}

// P16.2 and P16.3

// someOption is an option of any of the codes, mostly a right one.
func someOption(random *rand.Rand) string {
	code := own[random.Intn(len(own))]
	switch random.Intn(12) {
	case 0:
		return inBytes(code, noise(random.Intn(5), random))
	case 1:
		if wrong := wrongData(code); len(wrong) > 0 {
			return inBytes(code, wrong[random.Intn(len(wrong))])
		}
	case 2, 3, 4:
		return inBytes(uint16(random.Intn(1<<16)), noise(random.Intn(40), random))
	case 5, 6, 7:
		o, err := opt6.PutIA(someIA(random))
		if err == api.OK {
			return inBytes(o.Code, o.Data)
		}
	}
	return inBytes(code, rightData(code))
}

// spoilt is bytes, by chance cut off, with one more or with one changed.
func spoilt(s string, random *rand.Rand) string {
	at := random.Intn(len(s) + 1)
	switch random.Intn(20) {
	case 0:
		return s[:at]
	case 1:
		return s[:at] + noise(1, random) + s[at:]
	case 2:
		if at < len(s) {
			return s[:at] + noise(1, random) + s[at+1:]
		}
	}
	return s
}

func someBytes(random *rand.Rand) string {
	s := char(rarely(random, []int{1, 2, 3, 4, 5, 6, 7, 8, 9, 10, 11}, []int{0, 12, 13, 14, 255})) + noise(3, random)
	if random.Intn(16) == 0 {
		s += bytesOf(foreign(115 + random.Intn(15)))
	}
	for range random.Intn(12) {
		s += someOption(random)
	}
	if random.Intn(30) == 0 {
		s += bytesOf(filling(65500 - len(s) + random.Intn(16)))
	}
	return spoilt(s, random)
}

func TestDecodeOfSomeBytes(t *testing.T) {
	random := rand.New(rand.NewSource(17))
	seen := tally{}
	for range 60000 {
		seen[checkDecode(t, someBytes(random))]++
	}
	seen.saw(t, 300, api.OK, api.ErrShort, api.ErrMessage, api.ErrOption, api.ErrLong)
}

func TestDecodeOfNoise(t *testing.T) {
	random := rand.New(rand.NewSource(18))
	seen := tally{}
	for range 300000 {
		s := []byte(noise(random.Intn(60), random))
		// Small numbers are codes and lengths that fit now and then.
		for i := range s {
			if random.Intn(12) > 0 {
				s[i] = []byte{0, 0, 0, 0, 0, 0, 1, 2, 4, 5, 13, 14, 19, 20, 25, 7}[s[i]%16]
			}
		}
		if len(s) > 0 && random.Intn(8) > 0 {
			s[0] = byte(1 + random.Intn(11))
		}
		seen[checkDecode(t, string(s))]++
	}
	seen.saw(t, 100, api.OK, api.ErrShort, api.ErrMessage, api.ErrOption)
}

// All rows of two options of a few codes and of little data.
func TestDecodeOfAllPairs(t *testing.T) {
	seen := tally{}
	var each []string
	for _, code := range append([]uint16{0, 5, 8, 269, 65535}, own...) {
		for _, data := range []string{"", "\x00", "\x05", "\x06", "\x0b", "\x0c", "\x00\x00", "ab", nulls(4), nulls(5), nulls(12), nulls(130), nulls(131), nulls(4) + "\x00\x0d\x00\x02\x00\x01"} {
			each = append(each, inBytes(code, data))
		}
	}
	for _, first := range each {
		seen[checkDecode(t, blankHead+first)]++
		for _, second := range each {
			seen[checkDecode(t, blankHead+first+second)]++
		}
	}
	seen.saw(t, 1000, api.OK, api.ErrShort, api.ErrOption)
}

// Every byte of a message changed, and every cut of it.
func TestDecodeOfChangedMessages(t *testing.T) {
	seen := tally{}
	for _, s := range []string{fullBytes() + bytesOf(foreign(5)), fullBytes(), bytesOf(foreign(9))} {
		for at := range len(s) {
			seen[checkDecode(t, s[:at])]++
			seen[checkDecode(t, s[at:])]++
			seen[checkDecode(t, s+s[at:])]++
			for b := range 256 {
				seen[checkDecode(t, s[:at]+char(b)+s[at+1:])]++
				seen[checkDecode(t, s[:at]+char(b)+s[at:])]++
			}
		}
	}
	seen.saw(t, 100, api.OK, api.ErrShort, api.ErrMessage, api.ErrOption)
}
