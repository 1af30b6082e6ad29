package lease

import (
	"cmp"
	"fmt"
	"math"
	"math/big"
	"strings"
	"testing"

	"tenancy/api"
)

const ones = math.MaxUint64

// prefix is a prefix by its numbers, or none.
func prefix(hi uint64, lo uint64, bits int) api.Prefix {
	return api.Prefix{Addr: api.Addr{Hi: hi, Lo: lo}, Bits: bits}
}

// host is an address of DHCPv4, by its number.
func host(n uint64) api.Prefix { return prefix(0, n, 128) }

// db8 is a prefix in 2001:db8::/32, by what stands in its words beside that.
func db8(hi uint64, lo uint64, bits int) api.Prefix {
	return prefix(0x20010db800000000|hi, lo, bits)
}

// odd are ints that are no kind, no state and no number of bits; cut to a byte
// most of them would be.
func odd() []int {
	list := []int{math.MinInt, math.MinInt + 1, math.MaxInt, math.MaxInt - 1, -128, -127, -4, -3, -2, -1}
	for _, n := range []int{1 << 8, 1 << 16, 1 << 32, 1 << 62, -1 << 8, -1 << 32} {
		list = append(list, n, n+1, n+2, n+3, n+4, n+56, n+64, n+127, n+128)
	}
	return list
}

func kinds() []int { return append(odd(), 0, 1, 2, 3, 4, 5, 6, 255) }

func words() []uint64 {
	return []uint64{0, 1, 1<<31 - 1, 1 << 31, 1<<32 - 1, 1 << 32, 1<<32 + 1, 1<<63 - 1, 1 << 63, 1<<63 + 1, ones - 1, ones}
}

// whats are prefixes of all lengths, and values that are none.
func whats() []api.Prefix {
	list := []api.Prefix{}
	for _, hi := range words() {
		for _, lo := range words() {
			for bits := -2; bits <= 131; bits++ {
				list = append(list, prefix(hi, lo, bits))
			}
			for _, bits := range odd() {
				list = append(list, prefix(hi, lo, bits))
			}
		}
	}
	for bits := range 130 {
		list = append(list, db8(0, 0, bits), db8(0x0100, 0, bits), db8(1, 0, bits), db8(0, 1<<63, bits))
	}
	return list
}

// number is an address as a big number.
func number(a api.Addr) *big.Int {
	n := new(big.Int).SetUint64(a.Hi)
	return n.Lsh(n, 64).Or(n, new(big.Int).SetUint64(a.Lo))
}

// ends are the first and the last address of a prefix; false: it is none.
func ends(p api.Prefix) (*big.Int, *big.Int, bool) {
	if p.Bits < 0 || p.Bits > 128 {
		return nil, nil, false
	}
	many := new(big.Int).Lsh(big.NewInt(1), uint(128-p.Bits))
	first := number(p.Addr)
	last := new(big.Int).Add(first, many)
	return first, last.Sub(last, big.NewInt(1)), new(big.Int).Mod(first, many).Sign() == 0
}

// plainRight is Right once more, as plainly as the chapter can be written down.
func plainRight(kind int, what api.Prefix) bool {
	first, _, ok := ends(what)
	if !ok {
		return false
	}
	switch kind {
	case 1:
		return what.Bits == 128 && first.BitLen() <= 32
	case 2, 3:
		return what.Bits == 128
	case 4:
		return 1 <= what.Bits && what.Bits <= 127
	}
	return false
}

// plainSound is Sound once more.
func plainSound(l api.Lease) bool {
	if !plainRight(l.Kind, l.What) {
		return false
	}
	if l.Until < 0 || l.Until > 1099511627776 {
		return false
	}
	if l.State == 2 {
		return l.Client == "" && l.Iaid == 0 && l.Kind != 4
	}
	if l.State != 1 || len(l.Client) < 1 || len(l.Client) > 130 {
		return false
	}
	return l.Iaid == 0 || l.Kind != 1
}

// plainChange is Change once more.
func plainChange(c api.Change) bool {
	if !c.Gone {
		return plainSound(c.Lease)
	}
	l := c.Lease
	return plainRight(l.Kind, l.What) && l.State == 0 && l.Client == "" && l.Iaid == 0 && l.Until == 0
}

// The chapter's examples.

func TestExamples(t *testing.T) {
	for _, c := range []struct {
		kind int
		what api.Prefix
		want bool
	}{
		{api.Host, host(0xc0a80105), true},
		{api.Host, prefix(1, 0, 128), false},
		{api.NonT, db8(0, 0, 64), false},
		{api.Deleg, db8(0, 5, 128), false},
		{5, host(5), false},
		{5, db8(0, 0, 56), false},
	} {
		if got := Right(c.kind, c.what); got != c.want {
			t.Errorf("Right(%d, %v) is %v", c.kind, c.what, got)
		}
	}
	meet(t, api.NonT, db8(0, 5, 128), api.Deleg, db8(0, 0, 56), true)
	meet(t, api.Host, host(5), api.NonT, host(5), false)
	meet(t, api.NonT, db8(0, 5, 128), api.Temp, db8(0, 5, 128), true)
	encodes(t, "\x00\x00")
	encodes(t, "\x00\x01\x02\x01\x80"+strings.Repeat("\x00", 15)+"\x01", takeOut(api.Host, host(1)))
}

// P8.1

func TestRight(t *testing.T) {
	for _, what := range whats() {
		for _, kind := range kinds() {
			if got := Right(kind, what); got != plainRight(kind, what) {
				t.Fatalf("Right(%d, %x) is %v", kind, what, got)
			}
		}
	}
}

func TestRightAtTheEdges(t *testing.T) {
	for _, c := range []struct {
		what api.Prefix
		want string // the kinds of which it can be leased
	}{
		{host(0), "123"},
		{host(1), "123"},
		{host(1<<32 - 1), "123"},
		{host(1 << 32), "23"},
		{prefix(1, 0, 128), "23"},
		{prefix(1<<63, 0, 128), "23"},
		{prefix(ones, ones, 128), "23"},
		{prefix(0, 0, 0), ""},
		{prefix(0, 0, 1), "4"},
		{prefix(1<<63, 0, 1), "4"},
		{prefix(1<<62, 0, 1), ""},
		{prefix(0, 0, 32), "4"},
		{db8(0, 0, 56), "4"},
		{db8(0x80, 0, 56), ""},
		{db8(0x100, 0, 56), "4"},
		{db8(0, 0, 64), "4"},
		{db8(0, 1, 64), ""},
		{db8(0, 1<<63, 64), ""},
		{db8(0, 1<<63, 65), "4"},
		{prefix(ones, ones-1, 127), "4"},
		{prefix(ones, ones, 127), ""},
		{prefix(0, 0, 127), "4"},
		{prefix(0, 0, 128), "123"},
		{prefix(0, 0, 129), ""},
		{prefix(0, 0, -1), ""},
		{prefix(0, 0, 256+128), ""},
	} {
		got := ""
		for _, kind := range kinds() {
			if Right(kind, c.what) {
				got += fmt.Sprint(kind)
			}
		}
		if got != c.want {
			t.Errorf("%x can be leased of the kinds %q, not %q", c.what, got, c.want)
		}
	}
}

// someWhats are one thing of each way to be leased, and some that can't be.
func someWhats() []api.Prefix {
	return []api.Prefix{
		host(0), host(0xc0a80105), host(1<<32 - 1), host(1 << 32), db8(0, 5, 128), prefix(ones, ones, 128),
		db8(0, 0, 56), prefix(0, 0, 1), prefix(0, 0, 127), prefix(0, 0, 0), db8(0, 5, 64), prefix(0, 0, 129), prefix(0, 0, -1),
	}
}

func clients() []string {
	return []string{
		"", "a", "\x00", "\xff\xfe", strings.Repeat("\x00", 129), strings.Repeat("c", 130), strings.Repeat("d", 131),
		strings.Repeat("e", 256), strings.Repeat("f", 257), strings.Repeat("g", 65536), strings.Repeat("h", 65537),
	}
}

func iaids() []uint32 { return []uint32{0, 1, 1 << 8, 1 << 16, 1 << 31, math.MaxUint32} }

func untils() []int {
	list := append(odd(), 0, 1, 100, 1<<31-1, 1<<31)
	for _, n := range []int{1 << 32, 1 << 39, 1 << 40, 1 << 41, 1 << 48} {
		list = append(list, n-1, n, n+1)
	}
	return list
}

// manyLeases are leases and values that are none: all of some of their fields.
func manyLeases() []api.Lease {
	var list []api.Lease
	for _, kind := range []int{-1, 0, 1, 2, 3, 4, 5, 256 + 1, 1<<32 + 2} {
		for _, what := range someWhats() {
			for _, state := range []int{-1, 0, 1, 2, 3, 256 + 1, 1<<32 + 2, math.MinInt, math.MaxInt} {
				for _, client := range clients() {
					for _, iaid := range iaids() {
						list = append(list, api.Lease{Kind: kind, What: what, State: state, Client: client, Iaid: iaid, Until: 7})
					}
				}
			}
		}
	}
	for _, kind := range kinds() {
		for _, what := range someWhats() {
			for _, until := range untils() {
				list = append(list,
					api.Lease{Kind: kind, What: what, State: api.Bound, Client: "a", Until: until},
					api.Lease{Kind: kind, What: what, State: api.Bound, Client: "a", Iaid: 1, Until: until},
					api.Lease{Kind: kind, What: what, State: api.Declined, Until: until})
			}
		}
	}
	for _, state := range odd() {
		for _, client := range clients() {
			list = append(list, api.Lease{Kind: api.NonT, What: db8(0, 5, 128), State: state, Client: client})
		}
	}
	return list
}

func TestSoundAndChange(t *testing.T) {
	sound := 0
	for _, l := range manyLeases() {
		want := plainSound(l)
		if got := Sound(l); got != want {
			t.Fatalf("Sound(%x) is %v", l, got)
		}
		if want {
			sound++
		}
		put, gone := api.Change{Lease: l}, api.Change{Gone: true, Lease: l}
		if got := Change(put); got != want {
			t.Fatalf("Change of %x put is %v", l, got)
		}
		if got := Change(gone); got != plainChange(gone) {
			t.Fatalf("Change of %x gone is %v", l, got)
		}
	}
	if sound < 500 {
		t.Fatalf("only %d are leases", sound)
	}
}

// bound is a lease of a client; declined one that nobody has.
func bound(kind int, what api.Prefix, client string, iaid uint32, until int) api.Lease {
	return api.Lease{Kind: kind, What: what, State: api.Bound, Client: client, Iaid: iaid, Until: until}
}

func declined(kind int, what api.Prefix, until int) api.Lease {
	return api.Lease{Kind: kind, What: what, State: api.Declined, Until: until}
}

func TestSoundAtTheEdges(t *testing.T) {
	long := strings.Repeat("c", 130)
	for _, c := range []struct {
		l    api.Lease
		want bool
	}{
		{api.Lease{}, false},
		{bound(api.Host, host(5), "a", 0, 10), true},
		{bound(api.Host, host(5), "a", 1, 10), false},
		{bound(api.NonT, host(5), "a", 1, 10), true},
		{bound(api.Temp, host(5), "a", math.MaxUint32, 10), true},
		{bound(api.Deleg, db8(0, 0, 56), "a", 1, 10), true},
		{bound(api.Deleg, db8(0, 0, 56), "a", 0, 10), true},
		{bound(api.Host, host(5), "", 0, 10), false},
		{bound(api.Host, host(5), long, 0, 10), true},
		{bound(api.Host, host(5), long+"c", 0, 10), false},
		{bound(api.Host, host(5), "a", 0, -1), false},
		{bound(api.Host, host(5), "a", 0, 0), true},
		{bound(api.Host, host(5), "a", 0, 1<<40), true},
		{bound(api.Host, host(5), "a", 0, 1<<40+1), false},
		{bound(api.Host, host(1<<32), "a", 0, 10), false},
		{bound(api.Deleg, db8(0, 1, 56), "a", 0, 10), false},
		{declined(api.Host, host(5), 0), true},
		{declined(api.NonT, host(5), 1<<40), true},
		{declined(api.Temp, host(5), 10), true},
		{declined(api.Deleg, db8(0, 0, 56), 10), false},
		{declined(api.Host, host(5), -1), false},
		{declined(api.Host, host(5), 1<<40+1), false},
		{api.Lease{Kind: api.Host, What: host(5), State: api.Declined, Client: "a"}, false},
		{api.Lease{Kind: api.NonT, What: host(5), State: api.Declined, Iaid: 1}, false},
		{api.Lease{Kind: api.Host, What: host(5), Client: "a"}, false},
		{api.Lease{Kind: api.Host, What: host(5)}, false},
		{api.Lease{Kind: api.Host, What: host(5), State: 3, Client: "a"}, false},
	} {
		if got := Sound(c.l); got != c.want {
			t.Errorf("Sound(%v) is %v", c.l, got)
		}
		if got := Change(api.Change{Lease: c.l}); got != c.want {
			t.Errorf("Change of %v put is %v", c.l, got)
		}
	}
}

// takeOut is the change that takes a lease out; putIn the one that puts it.
func takeOut(kind int, what api.Prefix) api.Change {
	return api.Change{Gone: true, Lease: api.Lease{Kind: kind, What: what}}
}

func putIn(l api.Lease) api.Change { return api.Change{Lease: l} }

func TestChangeGone(t *testing.T) {
	for _, what := range whats() {
		for kind := -1; kind < 6; kind++ {
			if got := Change(takeOut(kind, what)); got != plainRight(kind, what) {
				t.Fatalf("Change of %d, %x gone is %v", kind, what, got)
			}
		}
	}
	for _, l := range []api.Lease{
		{State: api.Bound}, {State: api.Declined}, {State: -1}, {State: 1 << 32}, {Client: "a"}, {Client: "\x00"}, {Iaid: 1}, {Iaid: 1 << 31},
		{Until: 1}, {Until: -1}, {Until: 1 << 32}, {Until: math.MinInt}, {State: api.Bound, Client: "a", Until: 1},
	} {
		for kind, what := range map[int]api.Prefix{api.Host: host(5), api.NonT: db8(0, 5, 128), api.Temp: db8(0, 5, 128), api.Deleg: db8(0, 0, 56)} {
			l.Kind, l.What = kind, what
			if Change(api.Change{Gone: true, Lease: l}) {
				t.Errorf("%v gone is a change", l)
			}
		}
	}
}

// P8.2

// thing is a kind and what may be leased.
type thing struct {
	kind int
	what api.Prefix
}

// rising are things in their order, of which many are none that can be leased.
func rising() []thing {
	var list []thing
	addrs := []api.Addr{{}, {Lo: 1}, {Lo: 1<<63 - 1}, {Lo: 1 << 63}, {Lo: ones}, {Hi: 1}, {Hi: 1, Lo: ones}, {Hi: 1<<63 - 1, Lo: ones}, {Hi: 1 << 63}, {Hi: ones}, {Hi: ones, Lo: 1}, {Hi: ones, Lo: ones}}
	for _, kind := range []int{math.MinInt, -1 << 32, -1, 0, 1, 2, 3, 4, 5, 257, 1 << 32, math.MaxInt} {
		for _, a := range addrs {
			for _, bits := range []int{math.MinInt, -1, 0, 1, 64, 127, 128, 129, 256, 1 << 32, math.MaxInt} {
				list = append(list, thing{kind, api.Prefix{Addr: a, Bits: bits}})
			}
		}
	}
	return list
}

func TestCompare(t *testing.T) {
	list := rising()
	for i, a := range list {
		for j, b := range list {
			if got := Compare(a.kind, a.what, b.kind, b.what); got != cmp.Compare(i, j) {
				t.Fatalf("Compare of %x and %x is %d", a, b, got)
			}
		}
	}
}

func TestCompareInTurn(t *testing.T) {
	for _, c := range []struct {
		a, b thing
	}{
		{thing{api.Host, host(9)}, thing{api.NonT, host(5)}},                           // kinds ahead of addresses
		{thing{api.Host, prefix(ones, 0, 128)}, thing{api.Deleg, prefix(0, 0, 1)}},     // and of Bits
		{thing{api.Deleg, db8(0, 0, 64)}, thing{api.Deleg, db8(0x100, 0, 56)}},         // addresses ahead of Bits
		{thing{api.Deleg, db8(0, 0, 56)}, thing{api.Deleg, db8(0, 0, 57)}},             // then Bits
		{thing{api.NonT, prefix(0, ones, 128)}, thing{api.NonT, prefix(1, 0, 128)}},    // Hi ahead of Lo
		{thing{api.NonT, prefix(5, 0, 128)}, thing{api.NonT, prefix(1<<63, 0, 128)}},   // without signs
		{thing{api.NonT, prefix(5, 5, 128)}, thing{api.NonT, prefix(5, 1<<63+5, 128)}}, // in both words
	} {
		if got := Compare(c.a.kind, c.a.what, c.b.kind, c.b.what); got != -1 {
			t.Errorf("Compare of %x and %x is %d", c.a, c.b, got)
		}
		if got := Compare(c.b.kind, c.b.what, c.a.kind, c.a.what); got != 1 {
			t.Errorf("Compare of %x and %x is %d", c.b, c.a, got)
		}
		if got := Compare(c.a.kind, c.a.what, c.a.kind, c.a.what); got != 0 {
			t.Errorf("Compare of %x and itself is %d", c.a, got)
		}
	}
}

// meet fails unless two things meet, or don't, in both turns.
func meet(t *testing.T, kind int, what api.Prefix, otherKind int, other api.Prefix, want bool) {
	t.Helper()
	if got := Meets(kind, what, otherKind, other); got != want {
		t.Fatalf("Meets(%d, %x, %d, %x) is %v", kind, what, otherKind, other, got)
	}
	if got := Meets(otherKind, other, kind, what); got != want {
		t.Fatalf("Meets(%d, %x, %d, %x) is %v", otherKind, other, kind, what, got)
	}
}

// plainMeets is Meets once more, by the numbers of the addresses.
func plainMeets(a thing, b thing) bool {
	if !plainRight(a.kind, a.what) || !plainRight(b.kind, b.what) {
		return false
	}
	if a.kind == 1 || b.kind == 1 {
		return a == b
	}
	aFirst, aLast, _ := ends(a.what)
	bFirst, bLast, _ := ends(b.what)
	return aFirst.Cmp(bLast) <= 0 && bFirst.Cmp(aLast) <= 0
}

func TestMeets(t *testing.T) {
	list := []thing{}
	for _, what := range append(someWhats(),
		host(1), host(2), prefix(0, 0, 64), prefix(0, 0, 96), prefix(0, 0, 126), prefix(0, 2, 127), prefix(1, 0, 64), prefix(1<<63, 0, 1),
		db8(0, 4, 127), db8(0, 4, 128), db8(0, 6, 127), db8(0, 0, 63), db8(0, 0, 64), db8(1, 0, 64), db8(1, 5, 128), db8(0x100, 0, 56),
		prefix(0, 0, 256+128), prefix(0, 0, math.MinInt), prefix(0, 0, math.MaxInt)) {
		for _, kind := range []int{math.MinInt, -1, 0, 1, 2, 3, 4, 5, 257, 1<<32 + 2, math.MaxInt} {
			list = append(list, thing{kind, what})
		}
	}
	for _, a := range list {
		for _, b := range list {
			if got := Meets(a.kind, a.what, b.kind, b.what); got != plainMeets(a, b) {
				t.Fatalf("Meets of %x and %x is %v", a, b, got)
			}
		}
	}
}

func TestMeetsAtTheEdges(t *testing.T) {
	net, last := db8(0x100, 0, 56), db8(0x1ff, ones, 128)
	meet(t, api.Host, host(5), api.Host, host(5), true)
	meet(t, api.Host, host(5), api.Host, host(6), false)
	meet(t, api.Host, host(5), api.Temp, host(5), false)
	meet(t, api.Host, host(5), api.Deleg, prefix(0, 0, 64), false)
	meet(t, api.NonT, host(5), api.Deleg, prefix(0, 0, 64), true)
	meet(t, api.NonT, db8(0, 5, 128), api.NonT, db8(0, 6, 128), false)
	meet(t, api.Deleg, net, api.Deleg, net, true)
	meet(t, api.Deleg, net, api.Deleg, db8(0x180, 0, 57), true)
	meet(t, api.Deleg, net, api.Deleg, db8(0, 0, 55), true)
	meet(t, api.Deleg, net, api.Deleg, db8(0, 0, 56), false)
	meet(t, api.Deleg, net, api.Temp, last, true)
	meet(t, api.Deleg, net, api.NonT, db8(0x200, 0, 128), false)
	meet(t, api.Deleg, net, api.NonT, db8(0xff, ones, 128), false)
	meet(t, api.Deleg, prefix(0, 0, 0), api.NonT, host(5), false)            // no such delegation
	meet(t, api.Deleg, db8(0, 5, 128), api.NonT, db8(0, 5, 128), false)      // nor this
	meet(t, api.NonT, db8(0, 0, 64), api.NonT, db8(0, 5, 128), false)        // no address
	meet(t, api.Host, host(1<<32), api.Host, host(1<<32), false)             // none of DHCPv4
	meet(t, 0, host(5), 0, host(5), false)                                   // no kind
	meet(t, 5, db8(0, 5, 128), 5, db8(0, 5, 128), false)                     // nor this
	meet(t, api.Deleg, db8(0x180, 0, 56), api.Deleg, db8(0, 0, 32), false)   // no prefix
	meet(t, api.Deleg, prefix(0, 0, -1), api.Deleg, prefix(0, 0, -1), false) // nor this
}
