package buddy

import (
	"math"
	"slices"
	"testing"

	"tenancy/api"
)

// at is a block of the examples' prefix, by its fourth group and its bits.
func at(group uint64, bits int) api.Prefix {
	return api.Prefix{Addr: api.Addr{Hi: 0x20010db800000000 | group}, Bits: bits}
}

// low is the prefix of so many bits from a small number on.
func low(n uint64, bits int) api.Prefix { return api.Prefix{Addr: api.Addr{Lo: n}, Bits: bits} }

var (
	net = at(0, 48)
	top = api.Addr{Hi: ones, Lo: ones}
)

func list(p ...api.Prefix) []api.Prefix { return p }

// unsound are no prefixes.
func unsound() []api.Prefix {
	return list(
		at(1, 48), at(0x8000, 48), at(0x4000, 49), at(1, 63),
		low(1, 64), low(1, 127), low(1, 0), low(1<<63, 64),
		api.Prefix{Addr: top}, api.Prefix{Addr: top, Bits: 127}, api.Prefix{Addr: api.Addr{Hi: 1}, Bits: 63},
		low(0, -1), low(0, 129), low(0, math.MinInt), low(0, math.MaxInt), low(0, math.MinInt+1),
		api.Prefix{Addr: top, Bits: 129}, api.Prefix{Addr: top, Bits: -1}, at(0, -80), at(0, 256+48), at(0, -128),
	)
}

// outside are prefixes that whole doesn't cover, if there are any, and some
// that are none.
func outside(whole api.Prefix) []api.Prefix {
	some := list(low(0, -1), api.Prefix{Addr: top, Bits: 127}, low(0, 129))
	if whole.Bits == 0 {
		return some
	}
	apart, _ := plainHalves(api.Prefix{Addr: whole.Addr, Bits: whole.Bits - 1})
	if apart == whole {
		_, apart = plainHalves(api.Prefix{Addr: whole.Addr, Bits: whole.Bits - 1})
	}
	return append(some, apart, api.Prefix{})
}

// wrongLists are lists that are no free blocks of net.
func wrongLists() [][]api.Prefix {
	lists := [][]api.Prefix{
		list(net, net),
		list(net, at(0, 64)),
		list(at(0, 64), net),
		list(at(0, 49), at(0x8000, 49)),                  // the halves of net
		list(at(0x8000, 49), at(0, 49)),                  // the same, falling
		list(at(6, 64), at(7, 64)),                       // the halves of 6/63
		list(at(0, 64), at(6, 64), at(7, 64)),            // the last ones
		list(at(2, 63), at(4, 64), at(5, 64), at(8, 61)), // the middle ones
		list(at(4, 64), at(2, 64)),                       // falling
		list(at(2, 64), at(8, 64), at(4, 64)),            // the last one
		list(at(2, 64), at(2, 64)),                       // twice the same
		list(at(2, 64), at(4, 64), at(2, 64)),            // the same, not side by side
		list(at(0, 60), at(4, 64)),                       // one in the other
		list(at(0, 60), at(0, 64)),                       // the same, both beginning at one address
		list(at(0, 64), at(0, 60)),                       // the same
		list(at(0, 49), at(2, 64), at(4, 64)),            // all in the first one
		list(at(0, 47)),                                  // more than net
		list(api.Prefix{}),                               // all addresses
		list(low(0, 64)),                                 // below net
		list(at(0x10000, 64)),                            // above it
		list(at(0, 64), at(0x10000, 64)),                 // the second one above it
		list(low(0, 128), at(0, 64)),                     // the first one below it
	}
	for _, p := range unsound() {
		lists = append(lists, list(p), list(at(0, 64), p), list(p, at(0xffff, 64)))
	}
	return lists
}

// The chapter's examples

func TestExamples(t *testing.T) {
	free, first, err := Take(net, list(net), 50)
	if err != api.OK || first != at(0, 50) || !slices.Equal(free, list(at(0x4000, 50), at(0x8000, 49))) {
		t.Fatalf("Take of 50 is %x, %x, %d", free, first, err)
	}
	free, second, err := Take(net, free, 64)
	want := list(at(0x4001, 64), at(0x4002, 63), at(0x4004, 62), at(0x4008, 61), at(0x4010, 60), at(0x4020, 59),
		at(0x4040, 58), at(0x4080, 57), at(0x4100, 56), at(0x4200, 55), at(0x4400, 54), at(0x4800, 53),
		at(0x5000, 52), at(0x6000, 51), at(0x8000, 49))
	if err != api.OK || second != at(0x4000, 64) || !slices.Equal(free, want) {
		t.Fatalf("Take of 64 is %x, %x, %d", free, second, err)
	}
	other, err := Give(net, free, first)
	if err != api.OK || !Sound(net, other) {
		t.Errorf("Give of %x is %x, %d", first, other, err)
	}
	other, err = Give(net, other, second)
	if err != api.OK || !slices.Equal(other, list(net)) {
		t.Errorf("Give of %x is %x, %d", second, other, err)
	}
	free, err = Give(net, free, second)
	if err != api.OK || !slices.Equal(free, list(at(0x4000, 50), at(0x8000, 49))) {
		t.Errorf("Give of %x is %x, %d", second, free, err)
	}
	free, err = Give(net, free, first)
	if err != api.OK || !slices.Equal(free, list(net)) {
		t.Errorf("Give of %x is %x, %d", first, free, err)
	}
	if free, err := Give(net, list(net), at(0, 50)); err != api.ErrBlock || len(free) > 0 {
		t.Errorf("Give of what is free is %x, %d", free, err)
	}
	if free, err := Reserve(net, list(net), at(0x8000, 49)); err != api.OK || !slices.Equal(free, list(at(0, 49))) {
		t.Errorf("Reserve is %x, %d", free, err)
	}
	free, err = Free(net, list(at(0, 50), at(0xc000, 50)))
	if err != api.OK || !slices.Equal(free, list(at(0x4000, 50), at(0x8000, 50))) {
		t.Errorf("Free is %x, %d", free, err)
	}
	for bits, want := range map[int]api.Errno{48: api.ErrBlock, 47: api.ErrArg} {
		free, block, err := Take(net, list(at(0x8000, 49)), bits)
		if err != want || len(free) > 0 || block != (api.Prefix{}) {
			t.Errorf("Take of %d is %x, %x, %d", bits, free, block, err)
		}
	}
}

// P11.1

func TestSound(t *testing.T) {
	for _, free := range [][]api.Prefix{
		nil, {}, {net}, {at(0, 49)}, {at(0x8000, 49)}, {at(0xffff, 64)}, {at(0, 128)},
		{at(1, 64), at(2, 64)},                       // side by side, but of two prefixes
		{at(0x7fff, 64), at(0x8000, 64)},             // the same, at the middle
		{at(0, 49), at(0x8000, 50)},                  // side by side, of two sizes
		{at(0x4000, 50), at(0x8000, 50)},             // the inner quarters
		{at(0, 64), at(1, 128)},                      // beside a block, smaller
		{at(0, 64), at(2, 64), at(4, 63), at(8, 61)}, // with gaps and without
	} {
		if !Sound(net, free) {
			t.Errorf("Sound(%x) is false", free)
		}
	}
	for _, free := range wrongLists() {
		if Sound(net, free) {
			t.Errorf("Sound(%x) is true", free)
		}
	}
	for _, whole := range unsound() {
		for _, free := range [][]api.Prefix{nil, {whole}, {net}, {at(0, 64)}, {low(0, 128)}, {{}}} {
			if Sound(whole, free) {
				t.Errorf("Sound(%x, %x) is true", whole, free)
			}
		}
	}
}

func TestSoundOfAllAddresses(t *testing.T) {
	all := api.Prefix{}
	last := api.Prefix{Addr: top, Bits: 128}
	half := api.Prefix{Addr: api.Addr{Hi: 1 << 63}, Bits: 1}
	for _, free := range [][]api.Prefix{{all}, {low(0, 1)}, {half}, {low(0, 128), last}, {low(0, 1), last}} {
		if !Sound(all, free) {
			t.Errorf("Sound(%x) is false", free)
		}
	}
	for _, free := range [][]api.Prefix{{all, all}, {low(0, 1), half}, {half, low(0, 1)}, {last, low(0, 128)}, {all, last}} {
		if Sound(all, free) {
			t.Errorf("Sound(%x) is true", free)
		}
	}
}

// P11.2

func TestTakePicks(t *testing.T) {
	for i, c := range []struct {
		free  []api.Prefix
		bits  int
		block api.Prefix
		left  []api.Prefix
	}{
		{list(net), 48, net, nil},
		{list(net), 49, at(0, 49), list(at(0x8000, 49))},
		// the smallest one that is great enough, wherever it stands
		{list(at(0, 49), at(0x8000, 51), at(0xc000, 50)), 51, at(0x8000, 51), list(at(0, 49), at(0xc000, 50))},
		{list(at(0, 51), at(0x4000, 50), at(0x8000, 49)), 50, at(0x4000, 50), list(at(0, 51), at(0x8000, 49))},
		{list(at(0, 49), at(0x8000, 50), at(0xc000, 51)), 52, at(0xc000, 52), list(at(0, 49), at(0x8000, 50), at(0xd000, 52))},
		{list(at(0, 49), at(0x8000, 50), at(0xc000, 51)), 50, at(0x8000, 50), list(at(0, 49), at(0xc000, 51))},
		{list(at(0, 49), at(0x8000, 50), at(0xc000, 51)), 49, at(0, 49), list(at(0x8000, 50), at(0xc000, 51))},
		// of several of the size that one with the least address
		{list(at(1, 64), at(3, 64), at(8, 64)), 64, at(1, 64), list(at(3, 64), at(8, 64))},
		{list(at(0, 60), at(0x11, 64), at(0x22, 64)), 64, at(0x11, 64), list(at(0, 60), at(0x22, 64))},
		{list(at(0, 64), at(0x10, 61), at(0x20, 61)), 62, at(0x10, 62), list(at(0, 64), at(0x14, 62), at(0x20, 61))},
		// a block of one address
		{list(at(0, 127)), 128, at(0, 128), list(api.Prefix{Addr: api.Addr{Hi: net.Addr.Hi, Lo: 1}, Bits: 128})},
	} {
		left, block, err := Take(net, c.free, c.bits)
		if err != api.OK || block != c.block || !slices.Equal(left, c.left) {
			t.Errorf("row %d: %x, %x, %d", i, left, block, err)
		}
	}
}

func TestTakeOfNone(t *testing.T) {
	for _, c := range []struct {
		free []api.Prefix
		bits int
	}{{nil, 48}, {nil, 128}, {list(at(0, 49)), 48}, {list(at(1, 64), at(2, 64)), 63}, {list(at(0, 128)), 127}} {
		if left, block, err := Take(net, c.free, c.bits); err != api.ErrBlock || len(left) > 0 || block != (api.Prefix{}) {
			t.Errorf("Take(%x, %d) is %x, %x, %d", c.free, c.bits, left, block, err)
		}
	}
}

func TestTakeDownToOneAddress(t *testing.T) {
	all := api.Prefix{}
	left, block, err := Take(all, list(all), 128)
	if err != api.OK || block != low(0, 128) || len(left) != 128 || !plainSound(all, left) || !Sound(all, left) {
		t.Fatalf("Take is %x, %x, %d", left, block, err)
	}
	if left[0] != low(1, 128) || left[127] != (api.Prefix{Addr: api.Addr{Hi: 1 << 63}, Bits: 1}) {
		t.Errorf("the ends of what is free are %x, %x", left[0], left[127])
	}
	if back, err := Give(all, left, block); err != api.OK || !slices.Equal(back, list(all)) {
		t.Errorf("Give is %x, %d", back, err)
	}
}

// All blocks of one size are given out, the lowest first, till none is left.
func TestTakeTillNothingIsLeft(t *testing.T) {
	free := list(net)
	for n := range uint64(1 << 10) {
		left, block, err := Take(net, free, 58)
		if err != api.OK || block != at(n<<6, 58) {
			t.Fatalf("Take number %d is %x, %d", n, block, err)
		}
		free = left
	}
	if len(free) > 0 {
		t.Errorf("%x is left", free)
	}
	if _, _, err := Take(net, free, 58); err != api.ErrBlock {
		t.Errorf("one more is %d", err)
	}
	for n := range uint64(1 << 10) {
		// 731 is odd, so each number below 2^10 comes once.
		free, _ = Give(net, free, at(n*731%(1<<10)<<6, 58))
	}
	if !slices.Equal(free, list(net)) {
		t.Errorf("given back they are %x", free)
	}
}

// P11.3

func TestReserve(t *testing.T) {
	for i, c := range []struct {
		free  []api.Prefix
		block api.Prefix
		left  []api.Prefix
		err   api.Errno
	}{
		{list(net), net, nil, api.OK},
		{list(net), at(0, 49), list(at(0x8000, 49)), api.OK},
		{list(net), at(0x6000, 51), list(at(0, 50), at(0x4000, 51), at(0x8000, 49)), api.OK},
		{list(at(0, 50), at(0x8000, 49)), at(0x8000, 49), list(at(0, 50)), api.OK},
		{list(at(0, 50), at(0x8000, 49)), at(0xc000, 50), list(at(0, 50), at(0x8000, 50)), api.OK},
		{list(at(0, 50), at(0x8000, 49)), at(0, 50), list(at(0x8000, 49)), api.OK},
		{nil, at(0, 64), nil, api.ErrBlock},
		{nil, net, nil, api.ErrBlock},
		{list(at(0, 49)), net, nil, api.ErrBlock},                            // half of it is free
		{list(at(0, 64)), at(1, 64), nil, api.ErrBlock},                      // the other half
		{list(at(1, 64), at(2, 64)), at(0, 62), nil, api.ErrBlock},           // two of four parts
		{list(at(1, 64), at(2, 63)), at(0, 62), nil, api.ErrBlock},           // all but the first part
		{list(at(0, 63), at(2, 64)), at(0, 62), nil, api.ErrBlock},           // all but the last one
		{list(at(0, 50), at(0x8000, 49)), at(0x4000, 50), nil, api.ErrBlock}, // between two
	} {
		if left, err := Reserve(net, c.free, c.block); err != c.err || !slices.Equal(left, c.left) {
			t.Errorf("row %d: %x, %d", i, left, err)
		}
	}
}

func TestGive(t *testing.T) {
	for i, c := range []struct {
		free  []api.Prefix
		block api.Prefix
		left  []api.Prefix
		err   api.Errno
	}{
		{nil, net, list(net), api.OK},
		{nil, at(5, 64), list(at(5, 64)), api.OK},
		{list(at(4, 64)), at(5, 64), list(at(4, 63)), api.OK},
		{list(at(5, 64)), at(4, 64), list(at(4, 63)), api.OK},
		{list(at(5, 64)), at(6, 64), list(at(5, 64), at(6, 64)), api.OK}, // beside, but of another prefix
		{list(at(6, 64)), at(5, 64), list(at(5, 64), at(6, 64)), api.OK},
		{list(at(4, 63)), at(6, 64), list(at(4, 63), at(6, 64)), api.OK}, // its other half isn't whole
		{list(at(4, 64), at(6, 63)), at(5, 64), list(at(4, 62)), api.OK}, // grown twice, down and up
		{list(at(4, 63), at(7, 64)), at(6, 64), list(at(4, 62)), api.OK}, // up and down
		{list(at(1, 64), at(2, 63), at(9, 64)), at(8, 64), list(at(1, 64), at(2, 63), at(8, 63)), api.OK},
		{list(at(0, 49)), at(0x8000, 49), list(net), api.OK},
		{list(at(0x8000, 49)), at(0, 49), list(net), api.OK},
		{list(net), net, nil, api.ErrBlock},
		{list(net), at(0xffff, 128), nil, api.ErrBlock},
		{list(at(0xffff, 128)), net, nil, api.ErrBlock}, // one address of it is free
		{list(at(4, 64)), at(4, 64), nil, api.ErrBlock},
		{list(at(4, 64)), at(4, 63), nil, api.ErrBlock},
		{list(at(1, 64), at(5, 64), at(9, 64)), at(4, 62), nil, api.ErrBlock},
	} {
		if left, err := Give(net, c.free, c.block); err != c.err || !slices.Equal(left, c.left) {
			t.Errorf("row %d: %x, %d", i, left, err)
		}
	}
}

// Of all addresses, and of a single one.
func TestEndsOfTheSizes(t *testing.T) {
	half := api.Prefix{Addr: api.Addr{Hi: 1 << 63}, Bits: 1}
	for _, whole := range list(api.Prefix{}, low(7, 128), api.Prefix{Addr: top, Bits: 128}) {
		left, block, err := Take(whole, list(whole), whole.Bits)
		if err != api.OK || block != whole || len(left) > 0 {
			t.Errorf("Take(%x) is %x, %x, %d", whole, left, block, err)
		}
		left, err = Give(whole, nil, whole)
		if err != api.OK || !slices.Equal(left, list(whole)) {
			t.Errorf("Give(%x) is %x, %d", whole, left, err)
		}
		left, err = Reserve(whole, list(whole), whole)
		if err != api.OK || len(left) > 0 {
			t.Errorf("Reserve(%x) is %x, %d", whole, left, err)
		}
		left, err = Free(whole, list(whole))
		if err != api.OK || len(left) > 0 {
			t.Errorf("Free(%x) is %x, %d", whole, left, err)
		}
	}
	if left, err := Give(api.Prefix{}, list(low(0, 1)), half); err != api.OK || !slices.Equal(left, list(api.Prefix{})) {
		t.Errorf("Give of the upper half is %x, %d", left, err)
	}
	// What is outside whole isn't free, so whole doesn't grow together with it.
	if left, err := Give(half, nil, half); err != api.OK || !slices.Equal(left, list(half)) {
		t.Errorf("Give of half of all is %x, %d", left, err)
	}
}

// P11.4

func TestFree(t *testing.T) {
	for i, c := range []struct {
		taken []api.Prefix
		free  []api.Prefix
		err   api.Errno
	}{
		{nil, list(net), api.OK},
		{list(net), nil, api.OK},
		{list(at(0, 49), at(0x8000, 49)), nil, api.OK}, // the taken ones may be two halves
		{list(at(0x8000, 49), at(0, 49)), nil, api.OK}, // and in any order
		{list(at(0xc000, 50), at(0, 50)), list(at(0x4000, 50), at(0x8000, 50)), api.OK},
		{list(at(0x8000, 49), at(0x4000, 51), at(0, 50)), list(at(0x6000, 51)), api.OK},
		{list(net, net), nil, api.ErrBlock},
		{list(at(5, 64), at(9, 64), at(5, 64)), nil, api.ErrBlock},
		{list(at(5, 64), at(9, 64), at(4, 63)), nil, api.ErrBlock},
		{list(at(4, 64), at(9, 64), at(4, 63)), nil, api.ErrBlock}, // both begin at 4
		{list(at(0, 60), at(2, 64), at(4, 64), at(15, 64)), nil, api.ErrBlock},
		{list(at(15, 64), at(0x20, 64), at(0, 60)), nil, api.ErrBlock},
		{list(at(0, 47)), nil, api.ErrArg},
		{list(at(5, 64), at(5, 64), at(0x10000, 64)), nil, api.ErrArg}, // ahead of ErrBlock
		{list(at(5, 64), low(5, 64), at(5, 64)), nil, api.ErrArg},
	} {
		if free, err := Free(net, c.taken); err != c.err || !slices.Equal(free, c.free) {
			t.Errorf("row %d: %x, %d", i, free, err)
		}
	}
	for _, p := range unsound() {
		for _, taken := range [][]api.Prefix{{p}, {at(0, 64), p}, {p, at(0, 64)}, {p, p}, {at(0, 64), at(0, 64), p}} {
			if free, err := Free(net, taken); err != api.ErrArg || len(free) > 0 {
				t.Errorf("Free(%x) is %x, %d", taken, free, err)
			}
		}
		for _, taken := range [][]api.Prefix{nil, {p}, {net}, {at(0, 64), at(0, 64)}, {low(0, 128)}} {
			if free, err := Free(p, taken); err != api.ErrArg || len(free) > 0 {
				t.Errorf("Free(%x, %x) is %x, %d", p, taken, free, err)
			}
		}
	}
}

// Every other one of many addresses is taken, the highest first; then some of
// all sizes.
func TestFreeOfMany(t *testing.T) {
	const many = 1 << 15
	whole := low(0, 112)
	var taken, want []api.Prefix
	for i := range uint64(many) {
		taken = append(taken, low(2*(many-1-i), 128))
		want = append(want, low(2*i+1, 128))
	}
	free, err := Free(whole, taken)
	if err != api.OK || !slices.Equal(free, want) || !Sound(whole, free) {
		t.Errorf("Free is %d blocks, %d", len(free), err)
	}
	if _, err := Free(whole, append(taken, low(many, 128))); err != api.ErrBlock {
		t.Errorf("with one of them twice it is %d", err)
	}
	free, err = Give(whole, free, low(many, 128))
	if err != api.OK || len(free) != many || free[many/2] != low(many, 127) {
		t.Errorf("Give is %d blocks, %d", len(free), err)
	}
}

func TestFits(t *testing.T) {
	for i, c := range []struct {
		free []api.Prefix
		bits int
		want bool
	}{
		{nil, 128, false},
		{nil, math.MaxInt, false},
		{list(net), 47, false},
		{list(net), 48, true},
		{list(net), 128, true},
		{list(at(1, 64), at(2, 63), at(8, 61)), 60, false},
		{list(at(1, 64), at(2, 63), at(8, 61)), 61, true},
		{list(at(1, 64), at(2, 63), at(8, 61)), 64, true},
		{list(at(8, 61), at(16, 64)), 61, true},
		{list(at(8, 61), at(16, 64)), 60, false},
		{list(api.Prefix{}), 0, true},
		{list(api.Prefix{}), -1, false},
		// whatever the list holds
		{list(low(0, 64), low(0, 64)), 64, true},
		{list(low(1, 5)), 4, false},
		{list(low(1, 5)), 5, true},
		{list(low(0, -7)), -7, true},
		{list(low(0, -7)), -8, false},
		{list(low(0, 500)), 499, false},
		{list(low(0, 500)), 500, true},
		{list(low(0, math.MinInt)), math.MinInt, true},
		{list(low(0, math.MinInt+1)), math.MinInt, false},
		{list(low(0, math.MinInt)), math.MaxInt, true},
		{list(low(0, math.MaxInt)), math.MinInt, false},
		{list(low(0, math.MaxInt)), math.MaxInt, true},
		{list(low(0, math.MaxInt)), math.MaxInt - 1, false},
	} {
		if got := Fits(c.free, c.bits); got != c.want {
			t.Errorf("row %d: Fits(%x, %d) is %v", i, c.free, c.bits, got)
		}
	}
}

// The errors

func TestErrArg(t *testing.T) {
	refused := func(what string, left []api.Prefix, err api.Errno) {
		t.Helper()
		if err != api.ErrArg || len(left) > 0 {
			t.Errorf("%s is %x, %d", what, left, err)
		}
	}
	take := func(whole api.Prefix, free []api.Prefix, bits int) {
		t.Helper()
		left, block, err := Take(whole, free, bits)
		refused("Take", left, err)
		if block != (api.Prefix{}) {
			t.Errorf("Take is %x beside an error", block)
		}
	}
	moves := func(whole api.Prefix, free []api.Prefix, block api.Prefix) {
		t.Helper()
		left, err := Reserve(whole, free, block)
		refused("Reserve", left, err)
		left, err = Give(whole, free, block)
		refused("Give", left, err)
	}
	for _, free := range wrongLists() {
		take(net, free, 64)
		take(net, free, 48)
		moves(net, free, at(0, 64))
		moves(net, free, at(0x9999, 128))
		moves(net, free, net)
	}
	for _, p := range unsound() {
		for _, free := range [][]api.Prefix{nil, {p}, {net}, {at(0, 64)}} {
			take(p, free, 64)
			take(p, free, p.Bits)
			moves(p, free, at(0, 64))
			moves(p, free, p)
		}
		for _, free := range [][]api.Prefix{nil, {net}, {at(0, 64)}} {
			moves(net, free, p)
		}
	}
	for _, free := range [][]api.Prefix{nil, {net}, {at(0x8000, 49)}} {
		for _, bits := range []int{47, 0, -1, 129, 256 + 48, math.MinInt, math.MaxInt} {
			take(net, free, bits)
		}
		for _, block := range list(at(0, 47), api.Prefix{}, at(0x10000, 48), at(0x10000, 64), low(0, 48), low(0, 128),
			api.Prefix{Addr: top, Bits: 128}, api.Prefix{Addr: api.Addr{Hi: net.Addr.Hi - 1, Lo: ones}, Bits: 128}) {
			moves(net, free, block)
		}
	}
	take(low(7, 128), list(low(7, 128)), 127)
	take(api.Prefix{}, list(api.Prefix{}), -1)
}

// P11.5

// roomy is a list with spare room, in which something stands.
func roomy(free []api.Prefix) []api.Prefix {
	room := append(slices.Clone(free), low(99, 128), low(98, 128), low(97, 128), low(96, 128))
	return room[:len(free)]
}

func TestNewMemory(t *testing.T) {
	mark := low(1234, 7)
	// keeps calls with a list that has spare room, and writes over all of what
	// is answered.
	keeps := func(what string, free []api.Prefix, call func(free []api.Prefix) []api.Prefix) {
		t.Helper()
		given := roomy(free)
		before := slices.Clone(given[:cap(given)])
		first := call(given)
		want := slices.Clone(first)
		second := call(given)
		for i := range first[:cap(first)] {
			first[:cap(first)][i] = mark
		}
		if !slices.Equal(given[:cap(given)], before) {
			t.Errorf("%s changes %x", what, before)
		}
		if !slices.Equal(second, want) {
			t.Errorf("two answers of %s share memory", what)
		}
		for i := range given[:cap(given)] {
			given[:cap(given)][i] = mark
		}
		if !slices.Equal(second, want) {
			t.Errorf("an answer of %s shares memory with what was handed in", what)
		}
	}
	w := newWorld(low(0x40, 125), 3)
	for set := range 1 << 8 {
		free := w.free(set)
		for bits := 125; bits <= 128; bits++ {
			keeps("Take", free, func(free []api.Prefix) []api.Prefix {
				left, _, _ := Take(w.whole, free, bits)
				return left
			})
		}
		w.each(func(block api.Prefix, mask int) {
			keeps("Reserve", free, func(free []api.Prefix) []api.Prefix {
				left, _ := Reserve(w.whole, free, block)
				return left
			})
			keeps("Give", free, func(free []api.Prefix) []api.Prefix {
				left, _ := Give(w.whole, free, block)
				return left
			})
		})
		slices.Reverse(free)
		keeps("Free", free, func(taken []api.Prefix) []api.Prefix {
			left, _ := Free(w.whole, taken)
			return left
		})
		keeps("Sound and Fits", free, func(free []api.Prefix) []api.Prefix {
			Sound(w.whole, free)
			Fits(free, 127)
			return nil
		})
	}
}
