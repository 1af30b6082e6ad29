package lease

import (
	"encoding/binary"
	"encoding/hex"
	"fmt"
	"math"
	"math/rand"
	"slices"
	"strings"
	"testing"

	"tenancy/api"
)

func chance() *rand.Rand { return rand.New(rand.NewSource(8)) }

// noise is n bytes that a random source gives.
func noise(n int, random *rand.Rand) string {
	list := make([]byte, n)
	random.Read(list)
	return string(list)
}

// someChanges are changes of all ways, those at the edges too.
func someChanges() []api.Change {
	long := strings.Repeat("\xfe", 130)
	return []api.Change{
		takeOut(api.Host, host(1)),
		putIn(bound(api.Host, host(0xc0a80105), "a", 0, 10)),
		putIn(declined(api.Host, host(1<<32-1), 0)),
		putIn(bound(api.NonT, db8(0, 5, 128), "bc", 1, 1<<40)),
		putIn(bound(api.Temp, prefix(ones, ones, 128), long, math.MaxUint32, 1<<40-1)),
		putIn(declined(api.Temp, host(0), 1<<40)),
		putIn(bound(api.Deleg, db8(0, 0, 56), "\x00", 0x01020304, 0x0102030405)),
		takeOut(api.Deleg, prefix(0, 0, 1)),
		putIn(bound(api.Deleg, prefix(1<<63, 0, 1), long[1:], 1<<31, 0)),
		takeOut(api.NonT, prefix(0x0102030405060708, 0x090a0b0c0d0e0f10, 128)),
		takeOut(api.Deleg, prefix(ones, ones-1, 127)),
		takeOut(api.Temp, host(0)),
	}
}

// plain is a change's bytes, whether it is one or not, as the chapter tells them.
func plain(c api.Change) string {
	big := binary.BigEndian
	l := c.Lease
	list := []byte{1, byte(l.Kind), byte(l.What.Bits)}
	if c.Gone {
		list[0] = 2
	}
	list = big.AppendUint64(list, l.What.Addr.Hi)
	list = big.AppendUint64(list, l.What.Addr.Lo)
	if c.Gone {
		return string(list)
	}
	list = append(list, byte(l.State))
	list = big.AppendUint32(list, l.Iaid)
	list = big.AppendUint64(list, uint64(l.Until))
	list = big.AppendUint16(list, uint16(len(l.Client)))
	return string(list) + l.Client
}

// plains is a list's bytes, with this number ahead of them, right or not.
func plains(count int, list ...api.Change) string {
	s := string(binary.BigEndian.AppendUint16(nil, uint16(count)))
	for _, c := range list {
		s += plain(c)
	}
	return s
}

// plainDecode is Decode once more, as plainly as the chapter can be written down.
func plainDecode(s string) ([]api.Change, api.Errno) {
	big := binary.BigEndian
	data := []byte(s)
	if len(data) < 2 {
		return nil, api.ErrShort
	}
	n := int(big.Uint16(data))
	if n > 2048 {
		return nil, api.ErrLong
	}
	data = data[2:]
	var list []api.Change
	for range n {
		if len(data) == 0 {
			return nil, api.ErrShort
		}
		if data[0] != 1 && data[0] != 2 {
			return nil, api.ErrForm
		}
		if len(data) < 19 {
			return nil, api.ErrShort
		}
		c := api.Change{Gone: data[0] == 2}
		c.Lease.Kind = int(data[1])
		c.Lease.What = prefix(big.Uint64(data[3:]), big.Uint64(data[11:]), int(data[2]))
		data = data[19:]
		if !c.Gone {
			if len(data) < 15 || len(data) < 15+int(big.Uint16(data[13:])) {
				return nil, api.ErrShort
			}
			end := 15 + int(big.Uint16(data[13:]))
			c.Lease.State = int(data[0])
			c.Lease.Iaid = big.Uint32(data[1:])
			c.Lease.Until = int(big.Uint64(data[5:]))
			c.Lease.Client = string(data[15:end])
			data = data[end:]
		}
		list = append(list, c)
	}
	if len(data) > 0 {
		return nil, api.ErrTail
	}
	for _, c := range list {
		if !plainChange(c) {
			return nil, api.ErrLease
		}
	}
	return list, api.OK
}

// encodes fails unless Encode of changes is these bytes, and Decode of these the changes.
func encodes(t *testing.T, want string, list ...api.Change) {
	t.Helper()
	s, err := Encode(list)
	if s != want || err != api.OK {
		t.Fatalf("Encode of %d changes is %s, %d", len(list), hex.EncodeToString([]byte(s)), err)
	}
	got, err := Decode(want)
	if !slices.Equal(got, list) || err != api.OK {
		t.Fatalf("Decode of %d changes is %v, %d", len(list), got, err)
	}
}

// encodesNot fails unless Encode answers just an error.
func encodesNot(t *testing.T, want api.Errno, list ...api.Change) {
	t.Helper()
	if s, err := Encode(list); s != "" || err != want {
		t.Fatalf("Encode of %d changes is %d bytes, %d, not %d", len(list), len(s), err, want)
	}
}

// decodesNot fails unless Decode answers just an error.
func decodesNot(t *testing.T, what string, s string, want api.Errno) {
	t.Helper()
	if list, err := Decode(s); len(list) != 0 || err != want {
		t.Fatalf("Decode of %s (%d bytes) is %d changes, %d, not %d", what, len(s), len(list), err, want)
	}
}

// P8.3 and P8.4: what is written, and that it is read.

func TestBytesOfEachPart(t *testing.T) {
	for text, c := range map[string]api.Change{
		"02 04 38 20010db8000001000000000000000000":                              takeOut(api.Deleg, db8(0x100, 0, 56)),
		"02 03 80 ffffffffffffffffffffffffffffffff":                              takeOut(api.Temp, prefix(ones, ones, 128)),
		"01 01 80 000000000000000000000000c0a80105 01 00000000 0000000000000064": putIn(bound(api.Host, host(0xc0a80105), "ab", 0, 100)),
		"01 02 80 20010db8000000000000000000000005 01 01020304 0000010000000000": putIn(bound(api.NonT, db8(0, 5, 128), "ab", 0x01020304, 1<<40)),
		"01 04 7f 0102030405060708090a0b0c0d0e0f10 01 ffffffff 000000fffffffffe": putIn(bound(api.Deleg, prefix(0x0102030405060708, 0x090a0b0c0d0e0f10, 127), "ab", math.MaxUint32, 1<<40-2)),
		"01 03 80 0102030405060708090a0b0c0d0e0f10 02 00000000 0000000102030405": putIn(declined(api.Temp, prefix(0x0102030405060708, 0x090a0b0c0d0e0f10, 128), 0x0102030405)),
	} {
		raw, err := hex.DecodeString(strings.ReplaceAll(text, " ", ""))
		if err != nil {
			t.Fatal(err)
		}
		want := "\x00\x01" + string(raw)
		switch {
		case c.Lease.State == api.Bound:
			want += "\x00\x02ab"
		case c.Lease.State == api.Declined:
			want += "\x00\x00"
		}
		encodes(t, want, c)
	}
}

func TestBytesOfLists(t *testing.T) {
	list := someChanges()
	encodes(t, plains(0))
	for i := range list {
		encodes(t, plains(1, list[i]), list[i])
		encodes(t, plains(i, list[:i]...), list[:i]...)
		encodes(t, plains(2, list[i], list[i]), list[i], list[i])
		encodes(t, plains(2, list[i], list[0]), list[i], list[0])
	}
	many := slices.Repeat(list, 170)
	encodes(t, plains(len(many), many...), many...)
}

func TestBytesOfEachClient(t *testing.T) {
	random := chance()
	for n := 1; n <= 130; n++ {
		for _, client := range []string{noise(n, random), strings.Repeat("\x00", n), strings.Repeat("\xff", n)} {
			c := putIn(bound(api.NonT, db8(0, 5, 128), client, random.Uint32(), random.Intn(1<<40)))
			encodes(t, plains(1, c), c)
			encodes(t, plains(2, c, takeOut(api.Host, host(1))), c, takeOut(api.Host, host(1)))
		}
	}
}

func TestBytesOfTheMost(t *testing.T) {
	longest := putIn(bound(api.Deleg, db8(0, 0, 56), strings.Repeat("c", 130), math.MaxUint32, 1<<40))
	for _, c := range append(someChanges(), longest) {
		for _, n := range []int{255, 256, 257, 2047, 2048} {
			list := slices.Repeat([]api.Change{c}, n)
			s := string([]byte{byte(n >> 8), byte(n)}) + strings.Repeat(plain(c), n)
			encodes(t, s, list...)
			decodesNot(t, "the most and a byte", s+"\x00", api.ErrTail)
			decodesNot(t, "the most but for a byte", s[:len(s)-1], api.ErrShort)
		}
	}
}

// P8.3

// noChanges are values that are no changes, each but for one thing.
func noChanges() []api.Change {
	list := []api.Change{
		{}, {Gone: true}, takeOut(0, host(1)), takeOut(5, host(1)), takeOut(api.Host, host(1<<32)), takeOut(api.Host, prefix(0, 0, 32)),
		takeOut(api.Host, prefix(0, 0, 127)), takeOut(api.NonT, db8(0, 0, 64)), takeOut(api.Deleg, db8(0, 5, 128)), takeOut(api.Deleg, prefix(0, 0, 0)),
		takeOut(api.Deleg, db8(0, 5, 64)), takeOut(api.Temp, prefix(0, 0, 129)), takeOut(api.Temp, prefix(0, 0, 255)), takeOut(255, host(1)),
		putIn(bound(api.Host, host(1), "", 0, 1)), putIn(bound(api.Host, host(1), "a", 1, 1)), putIn(bound(api.NonT, host(1), "", 1, 1)),
		putIn(bound(api.NonT, host(1), strings.Repeat("c", 131), 1, 1)), putIn(bound(api.NonT, host(1), strings.Repeat("c", 65535), 1, 1)),
		putIn(bound(api.Host, host(1), "a", 0, 1<<40+1)), putIn(bound(api.Host, host(1), "a", 0, -1)), putIn(bound(api.Host, host(1), "a", 0, math.MinInt)),
		putIn(bound(api.Host, host(1), "a", 0, math.MaxInt)), putIn(declined(api.Deleg, db8(0, 0, 56), 1)), putIn(declined(api.Temp, host(1), -1)),
		putIn(declined(api.Temp, host(1), 1<<40+1)), putIn(bound(0, host(1), "a", 0, 1)), putIn(bound(5, host(1), "a", 0, 1)),
		putIn(bound(api.Deleg, prefix(0, 0, 128), "a", 0, 1)), putIn(bound(api.Host, host(1<<32), "a", 0, 1)),
	}
	for _, state := range []int{0, 1, 3, 255} {
		list = append(list, putIn(api.Lease{Kind: api.Host, What: host(1), State: state}))
	}
	for _, state := range []int{0, 2, 3, 255} {
		list = append(list, putIn(api.Lease{Kind: api.Host, What: host(1), State: state, Client: "a"}))
	}
	return append(list, putIn(api.Lease{Kind: api.NonT, What: host(1), State: api.Declined, Iaid: 1}))
}

func TestEncodeOfNoChange(t *testing.T) {
	cut := []api.Change{
		putIn(bound(256+api.Host, host(1), "a", 0, 1)), takeOut(256+api.Host, host(1)), takeOut(1<<32+api.NonT, host(1)), takeOut(api.Host, prefix(0, 1, 256+128)),
		putIn(api.Lease{Kind: api.NonT, What: host(1), State: 256 + api.Bound, Client: "a"}), putIn(bound(api.NonT, host(1), strings.Repeat("c", 65537), 0, 1)),
		{Gone: true, Lease: bound(api.Host, host(1), "a", 0, 1)}, {Gone: true, Lease: declined(api.Host, host(1), 0)},
		{Gone: true, Lease: api.Lease{Kind: api.Host, What: host(1), Until: 1}}, {Gone: true, Lease: api.Lease{Kind: api.NonT, What: host(1), Iaid: 1}},
	}
	right := someChanges()
	for _, c := range append(noChanges(), cut...) {
		encodesNot(t, api.ErrLease, c)
		for i := range right {
			encodesNot(t, api.ErrLease, slices.Insert(slices.Clone(right), i, c)...)
		}
		encodesNot(t, api.ErrLease, append(slices.Clone(right), c)...)
	}
}

func TestEncodeOfTooMany(t *testing.T) {
	for _, c := range append(someChanges(), noChanges()...) {
		for _, n := range []int{2049, 2050, 65536, 65536 + 2048} {
			encodesNot(t, api.ErrLong, slices.Repeat([]api.Change{c}, n)...)
		}
	}
	list := slices.Repeat([]api.Change{takeOut(api.Host, host(1))}, 2047)
	encodesNot(t, api.ErrLease, append(list, api.Change{})...)
	encodesNot(t, api.ErrLong, append(list, takeOut(api.Host, host(1)), api.Change{})...)
}

// P8.4

func TestDecodeOfShortBytes(t *testing.T) {
	list := someChanges()
	for i := range list {
		for _, row := range [][]api.Change{list[i : i+1], list[:i+1], {list[i], list[0]}} {
			s := plains(len(row), row...)
			for end := range len(s) {
				decodesNot(t, "a part", s[:end], api.ErrShort)
			}
			for more := 1; more < 2049-len(row); more += 97 {
				decodesNot(t, "fewer changes", plains(len(row)+more, row...), api.ErrShort)
			}
		}
	}
	c := putIn(bound(api.NonT, host(1), "abc", 0, 1))
	s := plains(1, c)
	for n := 4; n < 65536; n += 13 {
		at := len(s) - 5
		decodesNot(t, "a client that isn't whole", s[:at]+string([]byte{byte(n >> 8), byte(n)})+"abc", api.ErrShort)
	}
}

func TestDecodeOfTooMany(t *testing.T) {
	for _, n := range []int{2049, 2050, 4096, 32768, 65535} {
		for what, rest := range map[string]string{
			"none": "", "one": plain(takeOut(api.Host, host(1))), "wrong ones": strings.Repeat("\x03", 100), "that many": strings.Repeat(plain(takeOut(api.Host, host(1))), n),
			"that many and a byte": strings.Repeat(plain(takeOut(api.Host, host(1))), n) + "\x00", "that many that are none": strings.Repeat(plain(takeOut(0, host(1))), n),
		} {
			decodesNot(t, what, plains(n)+rest, api.ErrLong)
		}
	}
	for _, s := range []string{"", "\x08", "\xff"} {
		decodesNot(t, "less than a number", s, api.ErrShort)
	}
	decodesNot(t, "2048 of none", plains(2048), api.ErrShort)
}

// The first byte of a change is read ahead of all else of it, but behind the
// changes ahead of it.
func TestDecodeOfNoForm(t *testing.T) {
	right := takeOut(api.Host, host(1))
	for n := range 256 {
		if n == 1 || n == 2 {
			continue
		}
		first := string([]byte{byte(n)})
		for what, rest := range map[string]string{"alone": "", "with bytes": "\x01\x80", "with all": plain(right)[1:], "with more": strings.Repeat("\x01", 200)} {
			decodesNot(t, "another first byte "+what, plains(1)+first+rest, api.ErrForm)
			decodesNot(t, "another first byte of the second "+what, plains(2, right)+first+rest, api.ErrForm)
			decodesNot(t, "another first byte of the first of two "+what, plains(2)+first+rest, api.ErrForm)
			decodesNot(t, "another first byte behind no change "+what, plains(2, takeOut(0, host(1)))+first+rest, api.ErrForm)
			decodesNot(t, "another first byte behind the last "+what, plains(1, right)+first+rest, api.ErrTail)
		}
	}
	decodesNot(t, "a short change", plains(2)+"\x01\x80\x00\x00\x03", api.ErrShort)
	decodesNot(t, "a short one behind one of no form", plains(2)+"\x00"+plain(right)[1:]+"\x01", api.ErrForm)
}

func TestDecodeOfTails(t *testing.T) {
	list := someChanges()
	for _, tail := range []string{"\x00", "\x01", "\x02", "\x00\x00", strings.Repeat("\xff", 300), plain(list[0]), plain(list[1])} {
		for i := range len(list) + 1 {
			decodesNot(t, "changes and a tail", plains(i, list[:i]...)+tail, api.ErrTail)
		}
		for _, c := range noChanges() {
			decodesNot(t, "no change and a tail", plains(1, c)+tail, api.ErrTail)
		}
	}
}

func TestDecodeOfNoChange(t *testing.T) {
	right := someChanges()
	for _, c := range noChanges() {
		decodesNot(t, fmt.Sprint(c), plains(1, c), api.ErrLease)
		decodesNot(t, fmt.Sprint(c), plains(2, c, right[1]), api.ErrLease)
		decodesNot(t, fmt.Sprint(c), plains(2, right[1], c), api.ErrLease)
		decodesNot(t, fmt.Sprint(c), plains(3, right[0], c, right[2]), api.ErrLease)
		s := plains(2, c, right[1])
		decodesNot(t, "no change and a short one", s[:len(s)-1], api.ErrShort)
		decodesNot(t, "no change and none", plains(2, c), api.ErrShort)
		decodesNot(t, "no change and one of no form", plains(2, c)+"\x00", api.ErrForm)
	}
}

// An Until of 8 bytes may be any: those of 2^63 and more too.
func TestDecodeOfEachUntil(t *testing.T) {
	c := putIn(bound(api.Host, host(1), "a", 0, 0))
	head, tail := plains(1, c)[:2+19+1+4], "\x00\x01a"
	for i := range 64 {
		for _, n := range []uint64{1 << i, 1<<i - 1, 1<<i + 1, -(1 << i), ^uint64(1 << i), 1<<i + 1<<63, 1<<i + 1<<41} {
			s := head + string(binary.BigEndian.AppendUint64(nil, n)) + tail
			if n > 1<<40 {
				decodesNot(t, fmt.Sprintf("an Until of %x", n), s, api.ErrLease)
				continue
			}
			c.Lease.Until = int(n)
			encodes(t, s, c)
		}
	}
}

// decodes fails unless Decode is what plainDecode is, and Encode leads back.
func decodes(t *testing.T, s string) api.Errno {
	t.Helper()
	want, wantErr := plainDecode(s)
	got, err := Decode(s)
	if !slices.Equal(got, want) || err != wantErr {
		t.Fatalf("Decode of %x is %v, %d, not %v, %d", s, got, err, want, wantErr)
	}
	if err == api.OK {
		encodes(t, s, got...)
	}
	return err
}

func TestDecodeOfChangedBytes(t *testing.T) {
	list := someChanges()
	rows := [][]api.Change{nil, list, list[:2], {list[3], list[7]}}
	for _, row := range rows {
		s := plains(len(row), row...)
		for at := range len(s) {
			for n := range 256 {
				decodes(t, s[:at]+string([]byte{byte(n)})+s[at+1:])
			}
			decodes(t, s[:at]+s[at+1:])
			decodes(t, s[:at]+"\x01"+s[at:])
		}
	}
}

func TestDecodeOfAnyBytes(t *testing.T) {
	random := chance()
	found := map[api.Errno]int{}
	right, wrong := someChanges(), noChanges()
	list := append(slices.Clone(right), wrong...)
	for range 20000 {
		n := random.Intn(4)
		s := plains(max(0, n+random.Intn(10)/9-random.Intn(10)/9))
		for range n {
			s += plain(list[random.Intn(len(right)+random.Intn(len(wrong)))])
		}
		data := []byte(s)
		for range random.Intn(3) {
			data[random.Intn(len(data))] = byte(random.Intn(5))
		}
		if random.Intn(9) == 0 {
			data = data[:random.Intn(len(data)+1)]
		}
		found[decodes(t, string(data))]++
		found[decodes(t, noise(random.Intn(60), random))]++
	}
	for _, err := range []api.Errno{api.OK, api.ErrShort, api.ErrLong, api.ErrForm, api.ErrTail, api.ErrLease} {
		if found[err] < 100 {
			t.Errorf("only %d answers %d", found[err], err)
		}
	}
}

// P8.5: nothing that is handed in is changed, and answers are apart.

func TestNothingIsChangedOrShared(t *testing.T) {
	room := someChanges()
	spare := takeOut(api.Host, host(77))
	room = append(room, spare)
	list, kept := room[:len(room)-1], slices.Clone(room)
	s, err := Encode(list)
	if err != api.OK || !slices.Equal(room, kept) {
		t.Fatal("Encode changes its list, or what stands behind it")
	}
	bad := append(slices.Clone(room), putIn(api.Lease{}))
	kept = slices.Clone(bad)
	if _, err := Encode(bad[:len(bad)-1]); err != api.OK || !slices.Equal(bad, kept) {
		t.Fatal("Encode reads or changes what stands behind its list")
	}
	if _, err := Encode(bad); err != api.ErrLease || !slices.Equal(bad, kept) {
		t.Fatal("Encode changes a list that it refuses")
	}

	one, _ := Decode(s)
	two, _ := Decode(s)
	one[0], one[1] = spare, spare
	_ = append(one, spare)
	if !slices.Equal(two, list) {
		t.Fatal("two answers share memory")
	}
	again, _ := Decode(s)
	if !slices.Equal(again, list) {
		t.Fatal("an answer is kept")
	}
	two[0] = spare
	if t1, _ := Encode(list); t1 != s {
		t.Fatal("an answer's list is the one that was handed in")
	}
}
