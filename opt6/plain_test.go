package opt6

import (
	"encoding/binary"
	"math/big"
	"math/rand"
	"slices"
	"testing"

	"tenancy/api"
)

// A second writing of the chapter's words, by the library's binary numbers, and for
// prefixes by its big ones.

func plainParse(s string) ([]api.Opt6, api.Errno) {
	b := []byte(s)
	var list []api.Opt6
	for len(b) > 0 {
		if len(b) < 4 || len(b)-4 < int(binary.BigEndian.Uint16(b[2:])) {
			return nil, api.ErrShort
		}
		if len(list) == 128 {
			return nil, api.ErrLong
		}
		end := 4 + int(binary.BigEndian.Uint16(b[2:]))
		list = append(list, opt(binary.BigEndian.Uint16(b), string(b[4:end])))
		b = b[end:]
	}
	return list, api.OK
}

func plainEmit(list []api.Opt6) (string, api.Errno) {
	if len(list) > 128 {
		return "", api.ErrLong
	}
	for _, o := range list {
		if len(o.Data) >= 1<<16 {
			return "", api.ErrOption
		}
	}
	return bytesOf(list), api.OK
}

func plainPrefix(p api.Prefix) bool {
	if p.Bits < 0 || p.Bits > 128 {
		return false
	}
	n := new(big.Int).Lsh(new(big.Int).SetUint64(p.Addr.Hi), 64)
	n.Or(n, new(big.Int).SetUint64(p.Addr.Lo))
	return n.Sign() == 0 || n.TrailingZeroBits() >= uint(128-p.Bits)
}

func plainSound(a api.IA) bool {
	right := len(a.Has) <= 8 && a.Code >= -1 && a.Code <= 65535
	switch a.Kind {
	case 2, 4:
	case 3:
		right = right && a.T1 == 0 && a.T2 == 0
	default:
		return false
	}
	for _, i := range a.Has {
		right = right && plainPrefix(i.What) && i.Code >= -1 && i.Code <= 65535
		if a.Kind != 4 {
			right = right && i.What.Bits == 128
		}
	}
	return right
}

func plainPut(a api.IA) (api.Opt6, api.Errno) {
	if !plainSound(a) {
		return api.Opt6{}, api.ErrOption
	}
	data := num32(a.Iaid)
	if a.Kind != 3 {
		data += num32(a.T1) + num32(a.T2)
	}
	for _, i := range a.Has {
		place := binary.BigEndian.AppendUint64(binary.BigEndian.AppendUint64(nil, i.What.Addr.Hi), i.What.Addr.Lo)
		times := num32(i.Pref) + num32(i.Valid)
		if a.Kind == 4 {
			data += inBytes(26, times+string([]byte{byte(i.What.Bits)})+string(place)+statusBytes(i.Code))
		} else {
			data += inBytes(5, string(place)+times+statusBytes(i.Code))
		}
	}
	return opt([]uint16{0, 0, 3, 4, 25}[a.Kind], data+statusBytes(a.Code)), api.OK
}

// plainStatus is the code of the first status of a list; false: one of the code 13 is none.
func plainStatus(list []api.Opt6) (int, bool) {
	code := -1
	for i := len(list) - 1; i >= 0; i-- {
		if list[i].Code != 13 {
			continue
		}
		if len(list[i].Data) < 2 {
			return 0, false
		}
		code = int(list[i].Data[0])*256 + int(list[i].Data[1])
	}
	return code, true
}

func plainInner(kind int, data string) (api.Inner, api.Errno) {
	var i api.Inner
	b := []byte(data)
	var place []byte
	if kind == 4 {
		if len(b) < 25 {
			return i, api.ErrShort
		}
		i.Pref, i.Valid, i.What.Bits = binary.BigEndian.Uint32(b), binary.BigEndian.Uint32(b[4:]), int(b[8])
		place, b = b[9:25], b[25:]
	} else {
		if len(b) < 24 {
			return i, api.ErrShort
		}
		i.Pref, i.Valid, i.What.Bits = binary.BigEndian.Uint32(b[16:]), binary.BigEndian.Uint32(b[20:]), 128
		place, b = b[:16], b[24:]
	}
	i.What.Addr = api.Addr{Hi: binary.BigEndian.Uint64(place), Lo: binary.BigEndian.Uint64(place[8:])}
	if !plainPrefix(i.What) {
		return i, api.ErrOption
	}
	list, err := plainParse(string(b))
	if err != api.OK {
		return i, err
	}
	code, ok := plainStatus(list)
	if !ok {
		return i, api.ErrOption
	}
	i.Code = code
	return i, api.OK
}

func plainGet(o api.Opt6) (api.IA, api.Errno) {
	kind, ok := map[uint16]int{3: 2, 4: 3, 25: 4}[o.Code]
	if !ok {
		return api.IA{}, api.ErrOption
	}
	head := 12
	if kind == 3 {
		head = 4
	}
	if len(o.Data) < head {
		return api.IA{}, api.ErrShort
	}
	b := []byte(o.Data)
	a := api.IA{Kind: kind, Iaid: binary.BigEndian.Uint32(b)}
	if kind != 3 {
		a.T1, a.T2 = binary.BigEndian.Uint32(b[4:]), binary.BigEndian.Uint32(b[8:])
	}
	list, err := plainParse(o.Data[head:])
	if err != api.OK {
		return api.IA{}, err
	}
	for at, held := range list {
		code, right := plainStatus(list[:at+1])
		if !right {
			return api.IA{}, api.ErrOption
		}
		a.Code = code
		if kind == 4 && held.Code != 26 || kind != 4 && held.Code != 5 {
			continue
		}
		if len(a.Has) == 8 {
			return api.IA{}, api.ErrLong
		}
		i, err := plainInner(kind, held.Data)
		if err != api.OK {
			return api.IA{}, err
		}
		a.Has = append(a.Has, i)
	}
	a.Code, _ = plainStatus(list)
	return a, api.OK
}

// checkParse fails unless Parse is as the second writing tells, and Emit of what it
// takes the same bytes.
func checkParse(t *testing.T, s string) api.Errno {
	t.Helper()
	list, err := Parse(s)
	want, wantErr := plainParse(s)
	if err != wantErr || !slices.Equal(list, want) {
		t.Fatalf("Parse(%x) is %x, %d, not %x, %d", s, list, err, want, wantErr)
	}
	if err != api.OK {
		return err
	}
	if again, err := Emit(list); err != api.OK || again != s {
		t.Fatalf("Emit of Parse(%x) is %x, %d", s, again, err)
	}
	return api.OK
}

// checkGet fails unless GetIA is as the second writing tells; what it gives is put
// into an option that is read as the same.
func checkGet(t *testing.T, o api.Opt6) api.Errno {
	t.Helper()
	a, err := GetIA(o)
	want, wantErr := plainGet(o)
	if err != wantErr || !same(a, want) {
		t.Fatalf("GetIA(%d: %x) is %v, %d, not %v, %d", o.Code, o.Data, a, err, want, wantErr)
	}
	if err != api.OK {
		return err
	}
	if code := checkPut(t, a); code != api.OK {
		t.Fatalf("PutIA of GetIA(%d: %x) is %d", o.Code, o.Data, code)
	}
	return api.OK
}

// checkPut fails unless Sound and PutIA are as the second writing tells, and GetIA of
// the option the identity association.
func checkPut(t *testing.T, a api.IA) api.Errno {
	t.Helper()
	o, err := PutIA(a)
	want, wantErr := plainPut(a)
	if err != wantErr || o != want || Sound(a) != (err == api.OK) {
		t.Fatalf("PutIA(%v) is %x, %d, not %x, %d", a, o, err, want, wantErr)
	}
	if err != api.OK {
		return err
	}
	if again, err := GetIA(o); err != api.OK || !same(again, a) {
		t.Fatalf("GetIA of PutIA(%v) is %v, %d", a, again, err)
	}
	return api.OK
}

func noise(n int, random *rand.Rand) string {
	list := make([]byte, n)
	random.Read(list)
	return string(list)
}

// tally counts the answers, so that a test can ask that it has seen each.
type tally map[api.Errno]int

func (c tally) saw(t *testing.T, least int, errs ...api.Errno) {
	t.Helper()
	for _, err := range errs {
		if c[err] < least {
			t.Errorf("%d was answered %d times only", err, c[err])
		}
	}
}

// P15.1

func TestAllShortBytes(t *testing.T) {
	seen := tally{}
	var grow func(s []byte)
	grow = func(s []byte) {
		seen[checkParse(t, string(s))]++
		if len(s) == 9 {
			return
		}
		for _, b := range []byte{0, 1, 4, 255}[:4-len(s)/8] {
			grow(append(slices.Clone(s), b))
		}
	}
	grow(nil)
	seen.saw(t, 1000, api.OK, api.ErrShort)
}

// someBytes are options, some of them long or very many, and by chance cut off or
// with one byte changed.
func someBytes(random *rand.Rand) string {
	much, s := 1+random.Intn(300), ""
	count := random.Intn(20)
	if random.Intn(4) == 0 {
		count = 120 + random.Intn(14)
	}
	for range count {
		n := random.Intn(much)
		if random.Intn(400) == 0 {
			n = 65535 - random.Intn(3)
		}
		s += inBytes(uint16(random.Intn(40)), noise(n, random))
	}
	return spoilt(s, random)
}

// spoilt is bytes, by chance cut off, with one more or with one changed.
func spoilt(s string, random *rand.Rand) string {
	at := random.Intn(len(s) + 1)
	switch random.Intn(12) {
	case 0:
		return s[:at]
	case 1:
		return s[:at] + noise(1, random) + s[at:]
	case 2:
		if at < len(s) {
			return s[:at] + noise(1, random) + s[at+1:]
		}
	}
	return s
}

func TestParseOfSomeBytes(t *testing.T) {
	random := rand.New(rand.NewSource(15))
	seen := tally{}
	for range 4000 {
		seen[checkParse(t, someBytes(random))]++
	}
	seen.saw(t, 200, api.OK, api.ErrShort, api.ErrLong)
}

func TestEmitOfSomeOptions(t *testing.T) {
	random := rand.New(rand.NewSource(16))
	seen := tally{}
	for range 3000 {
		list := make([]api.Opt6, random.Intn(140))
		for i := range list {
			list[i] = opt(uint16(random.Uint32()), noise(random.Intn(40), random))
		}
		if len(list) > 0 && random.Intn(3) == 0 {
			list[random.Intn(len(list))].Data = nulls(65533 + random.Intn(6))
		}
		s, err := Emit(list)
		want, wantErr := plainEmit(list)
		if err != wantErr || s != want {
			t.Fatalf("Emit is %d bytes, %d, not %d, %d", len(s), err, len(want), wantErr)
		}
		if err == api.OK && checkParse(t, s) != api.OK {
			t.Fatalf("Parse of Emit is no list")
		}
		seen[err]++
	}
	seen.saw(t, 100, api.OK, api.ErrOption, api.ErrLong)
}

// P15.2 and P15.5

// somewhere is an address with few or many bits, or a plain one.
func somewhere(random *rand.Rand) api.Addr {
	a := api.Addr{Hi: random.Uint64(), Lo: random.Uint64()}
	switch random.Intn(4) {
	case 0:
		return api.Addr{}
	case 1:
		a.Lo = 0
	case 2:
		a.Hi <<= random.Intn(64)
		a.Lo = 0
	}
	return a
}

func someCode(random *rand.Rand) int {
	switch random.Intn(30) {
	case 0:
		return wrongCodes[random.Intn(len(wrongCodes))]
	case 1, 2, 3, 4, 5:
		return rightCodes[random.Intn(len(rightCodes))]
	case 6, 7, 8, 9:
		return random.Intn(1 << 16)
	}
	return -1
}

func someIA(random *rand.Rand) api.IA {
	a := api.IA{Kind: 2 + random.Intn(3), Iaid: random.Uint32(), T1: random.Uint32(), T2: random.Uint32(), Code: someCode(random)}
	if a.Kind == 3 && random.Intn(8) > 0 {
		a.T1, a.T2 = 0, 0
	}
	for range random.Intn(10) {
		i := api.Inner{Pref: random.Uint32(), Valid: random.Uint32(), Code: someCode(random)}
		i.What = api.Prefix{Addr: somewhere(random), Bits: 128}
		if a.Kind == 4 || random.Intn(40) == 0 {
			i.What.Bits = 129 - random.Intn(80)
			i.What.Addr.Lo &= ^uint64(0) << random.Intn(64)
		}
		a.Has = append(a.Has, i)
	}
	if random.Intn(20) == 0 {
		a.Kind = random.Intn(30)
	}
	return a
}

func TestPutIAOfSome(t *testing.T) {
	random := rand.New(rand.NewSource(17))
	seen := tally{}
	for range 100000 {
		seen[checkPut(t, someIA(random))]++
	}
	seen.saw(t, 10000, api.OK, api.ErrOption)
}

// P15.3 and P15.5

// someHeld are options within one: of those that are minded and others.
func someHeld(kind, deep int, random *rand.Rand) string {
	s := ""
	count := random.Intn(5)
	if random.Intn(20) == 0 {
		count = 120 + random.Intn(16)
	}
	for range count {
		switch random.Intn(8) {
		case 0:
			s += inBytes(13, noise(2+random.Intn(4), random))
		case 1:
			s += inBytes(uint16(random.Intn(40)), noise(random.Intn(3), random))
		case 2:
			s += inBytes(uint16(1+random.Intn(2)), noise(random.Intn(30), random))
		case 3, 4, 5, 6:
			if deep > 0 {
				s += someWithin(kind, deep-1, random)
			}
		}
	}
	return s
}

// someWithin is what an identity association has, of its kind or, by chance, of another.
func someWithin(kind, deep int, random *rand.Rand) string {
	place := noise(16, random)
	if random.Intn(30) == 0 {
		kind = 2 + random.Intn(3)
	}
	code, data := uint16(5), place+noise(8, random)
	if kind == 4 {
		place = place[:6+random.Intn(3)]
		data = noise(8, random) + string([]byte{byte(64 + random.Intn(66))}) + place + nulls(16-len(place))
		code = 26
	}
	return inBytes(code, spoilt(data+spoilt(someHeld(kind, deep, random), random), random))
}

func someOption(random *rand.Rand) api.Opt6 {
	shape := shapes[random.Intn(len(shapes))]
	s := noise(shape.head, random)
	for range random.Intn(3) {
		s += someWithin(shape.kind, 1, random)
	}
	s += someHeld(shape.kind, 2, random)
	for range random.Intn(12) {
		s += inBytes(shape.within, nulls(shape.ahead))
	}
	if random.Intn(20) == 0 {
		shape.code = uint16(random.Intn(30))
	}
	return opt(shape.code, spoilt(s, random))
}

func TestGetIAOfSome(t *testing.T) {
	random := rand.New(rand.NewSource(18))
	seen := tally{}
	for range 15000 {
		seen[checkGet(t, someOption(random))]++
	}
	seen.saw(t, 1000, api.OK, api.ErrShort, api.ErrLong, api.ErrOption)
}

func TestGetIAOfNoise(t *testing.T) {
	random := rand.New(rand.NewSource(19))
	seen := tally{}
	for range 100000 {
		s := []byte(noise(random.Intn(80), random))
		// Small numbers are codes and lengths that fit now and then.
		for i := range s {
			if random.Intn(10) > 0 {
				s[i] = []byte{0, 0, 0, 0, 0, 0, 1, 2, 5, 13, 24, 26}[s[i]%12]
			}
		}
		seen[checkGet(t, opt([]uint16{3, 4, 25, 5}[random.Intn(4)], string(s)))]++
	}
	seen.saw(t, 300, api.OK, api.ErrShort, api.ErrOption)
}

// Every byte of some options changed, and every cut of them.
func TestGetIAOfChangedOptions(t *testing.T) {
	two := []api.Inner{{What: one(here), Pref: 1, Valid: 2, Code: 3}, has(one(ends), 4, 5)}
	for _, a := range []api.IA{
		{Kind: 2, Iaid: 1, T1: 2, T2: 3, Has: two, Code: 4},
		{Kind: 3, Iaid: 1, Has: two, Code: -1},
		{Kind: 4, Iaid: 1, T1: 2, T2: 3, Has: []api.Inner{{What: site, Code: 13}, has(one(here), 1, 1)}, Code: 0},
	} {
		o, err := PutIA(a)
		if err != api.OK {
			t.Fatal(err)
		}
		for at := range len(o.Data) {
			checkGet(t, opt(o.Code, o.Data[:at]))
			checkGet(t, opt(o.Code, o.Data[at:]))
			checkGet(t, opt(o.Code, o.Data+o.Data[at:]))
			for b := range 256 {
				checkGet(t, opt(o.Code, o.Data[:at]+string([]byte{byte(b)})+o.Data[at+1:]))
				checkGet(t, opt(o.Code, o.Data[:at]+string([]byte{byte(b)})+o.Data[at:]))
			}
		}
	}
}
