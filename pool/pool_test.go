package pool

import (
	"math"
	"slices"
	"testing"

	"tenancy/api"
)

const ones = math.MaxUint64

var (
	one  = api.Addr{Lo: 1}
	top  = api.Addr{Hi: ones, Lo: ones}
	last = api.Range{First: top, Last: top}
	all  = api.Range{Last: top}
)

// of is the ranges of small numbers, by their firsts and lasts in turn.
func of(ends ...uint64) []api.Range {
	var list []api.Range
	for i := 0; i < len(ends); i += 2 {
		list = append(list, api.Range{First: api.Addr{Lo: ends[i]}, Last: api.Addr{Lo: ends[i+1]}})
	}
	return list
}

func list(r ...api.Range) []api.Range { return r }

func between(first api.Addr, last api.Addr) api.Range { return api.Range{First: first, Last: last} }

// these are the addresses that are small numbers.
func these(numbers ...uint64) []api.Addr {
	var list []api.Addr
	for _, n := range numbers {
		list = append(list, api.Addr{Lo: n})
	}
	return list
}

// The chapter's examples

func TestExamples(t *testing.T) {
	set, err := Build(of(1, 9, 5, 12), these(3, 12, 40))
	if err != api.OK || !slices.Equal(set, of(1, 2, 4, 11)) {
		t.Fatalf("Build is %x, %d", set, err)
	}
	if set, err := Free(set, these(5, 5, 99)); err != api.OK || !slices.Equal(set, of(1, 2, 4, 4, 6, 11)) {
		t.Errorf("Free is %x, %d", set, err)
	}
	if set, err := Build(of(5, 4), nil); err != api.ErrArg || len(set) > 0 {
		t.Errorf("Build of none is %x, %d", set, err)
	}
	for draw, want := range map[uint64]uint64{0: 1, 2: 4, 3: 1, ones: 1} {
		if a, ok := Pick(of(1, 2, 4, 4), draw); !ok || a != (api.Addr{Lo: want}) {
			t.Errorf("Pick of %d is %x, %v", draw, a, ok)
		}
	}
	if a, ok := Pick(nil, 5); ok || a != (api.Addr{}) {
		t.Errorf("Pick of nothing is %x, %v", a, ok)
	}
	leases := []api.Lease{has(api.NonT, 7), has(api.NonT, 5), has(api.NonT, 7), has(api.Temp, 6)}
	if own := Own(leases, api.NonT); !slices.Equal(own, these(5, 7)) {
		t.Errorf("Own is %x", own)
	}
}

// has is a lease of a small number.
func has(kind int, n uint64) api.Lease {
	return api.Lease{Kind: kind, What: api.Prefix{Addr: api.Addr{Lo: n}, Bits: 128}, State: api.Bound, Client: "a", Until: 100}
}

// P12.1

func TestBuild(t *testing.T) {
	for i, c := range []struct {
		pools []api.Range
		out   []api.Addr
		want  []api.Range
	}{
		{nil, nil, nil},
		{list(), these(), nil},
		{nil, these(3), nil},
		{of(1, 9), nil, of(1, 9)},
		{of(1, 3, 5, 7), nil, of(1, 3, 5, 7)}, // 1 between them
		{of(1, 3, 4, 7), nil, of(1, 7)},       // touching
		{of(1, 3, 3, 7), nil, of(1, 7)},       // meeting
		{of(4, 7, 1, 3), nil, of(1, 7)},       // falling
		{of(3, 7, 1, 3), nil, of(1, 7)},
		{of(5, 7, 1, 3), nil, of(1, 3, 5, 7)},
		{of(1, 9, 3, 4), nil, of(1, 9)}, // one in the other
		{of(3, 4, 1, 9), nil, of(1, 9)},
		{of(1, 9, 1, 4), nil, of(1, 9)}, // beginning together
		{of(1, 4, 1, 9), nil, of(1, 9)},
		{of(1, 9, 6, 9), nil, of(1, 9)},                       // ending together
		{of(4, 5, 4, 5, 4, 5), nil, of(4, 5)},                 // the same
		{of(1, 9, 3, 4, 6, 7, 11, 12), nil, of(1, 9, 11, 12)}, // small ones behind a great one
		{of(1, 9, 3, 4, 10, 12), nil, of(1, 12)},
		{of(1, 2, 7, 8, 3, 6), nil, of(1, 8)}, // one that joins two
		{of(1, 1, 3, 3, 5, 5), nil, of(1, 1, 3, 3, 5, 5)},
		{of(5, 5, 3, 3, 1, 1, 2, 2, 4, 4), nil, of(1, 5)},
		{of(1, 9), these(1), of(2, 9)},
		{of(1, 9), these(9), of(1, 8)},
		{of(1, 9), these(0, 10), of(1, 9)},
		{of(1, 9), these(5, 5, 5), of(1, 4, 6, 9)},
		{of(1, 9), these(6, 4, 5), of(1, 3, 7, 9)},
		{of(1, 9), these(9, 3, 1, 3), of(2, 2, 4, 8)},
		{of(1, 3), these(3, 2, 1), nil},
		{of(1, 3, 3, 5), these(3), of(1, 2, 4, 5)}, // out of both
		{of(1, 3, 4, 6), these(4), of(1, 3, 5, 6)}, // where they touch
		{of(1, 3, 4, 6), these(3, 4), of(1, 2, 5, 6)},
		{of(1, 3, 5, 7), these(4), of(1, 3, 5, 7)}, // between them
		{of(4, 4), these(4), nil},
		{of(0, 0), these(0), nil},
	} {
		if got, err := Build(c.pools, c.out); err != api.OK || !slices.Equal(got, c.want) {
			t.Errorf("row %d: Build(%x, %x) is %x, %d", i, c.pools, c.out, got, err)
		}
	}
}

func TestBuildAtTheEnds(t *testing.T) {
	border, beyond := api.Addr{Lo: ones}, api.Addr{Hi: 1}
	for i, c := range []struct {
		pools []api.Range
		out   []api.Addr
		want  []api.Range
	}{
		{list(all), nil, list(all)},
		{list(all, all), nil, list(all)},
		{list(last, all, between(one, top)), nil, list(all)},
		{list(all), these(0), list(between(one, top))},
		{list(all), []api.Addr{top}, list(between(api.Addr{}, api.Addr{Hi: ones, Lo: ones - 1}))},
		{list(all), []api.Addr{top, {}}, list(between(one, api.Addr{Hi: ones, Lo: ones - 1}))},
		{list(all), []api.Addr{beyond, border}, list(between(api.Addr{}, api.Addr{Lo: ones - 1}), between(api.Addr{Hi: 1, Lo: 1}, top))},
		{list(last), nil, list(last)},
		{list(last), []api.Addr{top}, nil},
		{list(last, last), nil, list(last)},
		{list(last, between(api.Addr{}, api.Addr{})), nil, list(between(api.Addr{}, api.Addr{}), last)}, // not round the end
		{list(last, between(api.Addr{}, api.Addr{Hi: ones, Lo: ones - 1})), nil, list(all)},
		{list(last, between(api.Addr{}, api.Addr{Hi: ones, Lo: ones - 2})), nil, list(between(api.Addr{}, api.Addr{Hi: ones, Lo: ones - 2}), last)},
		{list(between(beyond, top), between(api.Addr{}, border)), nil, list(all)}, // touching across the words
		{list(between(beyond, beyond), between(border, border)), nil, list(between(border, beyond))},
		{list(between(beyond, top), of(3, 4)[0]), nil, list(of(3, 4)[0], between(beyond, top))},
		// a low Lo beside a high Hi
		{list(between(api.Addr{Hi: 2}, api.Addr{Hi: 2, Lo: 5}), between(api.Addr{Hi: 1, Lo: 9}, api.Addr{Hi: 1, Lo: 9})), nil,
			list(between(api.Addr{Hi: 1, Lo: 9}, api.Addr{Hi: 1, Lo: 9}), between(api.Addr{Hi: 2}, api.Addr{Hi: 2, Lo: 5}))},
	} {
		if got, err := Build(c.pools, c.out); err != api.OK || !slices.Equal(got, c.want) {
			t.Errorf("row %d: Build(%x, %x) is %x, %d", i, c.pools, c.out, got, err)
		}
	}
}

// noRanges begin above their end.
func noRanges() []api.Range {
	return list(
		of(5, 4)[0], of(ones, 0)[0], of(1, 0)[0], between(top, api.Addr{}), between(one, api.Addr{}),
		between(top, api.Addr{Hi: ones, Lo: ones - 1}), between(api.Addr{Hi: 1}, api.Addr{Lo: ones}), between(api.Addr{Hi: 2, Lo: 1}, api.Addr{Hi: 1, Lo: 2}),
	)
}

func TestBuildWrong(t *testing.T) {
	for _, none := range noRanges() {
		for _, pools := range [][]api.Range{
			{none}, {none, none},
			{none, all}, {all, none},
			append(of(1, 3, 8, 9), none), append(list(none), of(1, 3, 8, 9)...),
			slices.Insert(of(1, 3, 8, 9), 1, none), slices.Insert(of(8, 9, 1, 3), 1, none),
			slices.Insert(of(1, 9, 1, 9, 1, 9, 1, 9), 2, none),
		} {
			for _, out := range [][]api.Addr{nil, these(4, 5), {none.First, none.Last}, {top, {}}} {
				if got, err := Build(pools, out); err != api.ErrArg || len(got) > 0 {
					t.Errorf("Build(%x, %x) is %x, %d", pools, out, got, err)
				}
			}
		}
	}
}

// P12.2

func TestFree(t *testing.T) {
	for i, c := range []struct {
		set   []api.Range
		taken []api.Addr
		want  []api.Range
	}{
		{nil, nil, nil},
		{list(), these(3, 4), nil},
		{of(1, 9), nil, of(1, 9)},
		{of(1, 3, 5, 7), these(), of(1, 3, 5, 7)},
		{of(1, 3, 5, 7), these(4, 0, 8), of(1, 3, 5, 7)},
		{of(1, 3, 5, 7), these(7, 1, 7), of(2, 3, 5, 6)},
		{of(1, 3, 5, 7), these(6, 2), of(1, 1, 3, 3, 5, 5, 7, 7)},
		{of(1, 3, 5, 7), these(3, 5, 4), of(1, 2, 6, 7)},
		{of(1, 3, 5, 7), these(5, 7, 6), of(1, 3)},
		{of(1, 3, 5, 7), these(3, 1, 2, 7, 6, 5), nil},
		{of(1, 1, 3, 3, 5, 5), these(3), of(1, 1, 5, 5)},
		{of(1, 1), these(1, 1, 1), nil},
		{list(all), []api.Addr{top, {}, top}, list(between(one, api.Addr{Hi: ones, Lo: ones - 1}))},
		{list(all), []api.Addr{{Hi: 1}}, list(between(api.Addr{}, api.Addr{Lo: ones}), between(api.Addr{Hi: 1, Lo: 1}, top))},
		{list(last), []api.Addr{top}, nil},
		{list(last), []api.Addr{{}, {Lo: ones}, {Hi: ones}}, list(last)},
		{of(5, 5), []api.Addr{{Hi: 5}, {Hi: 5, Lo: 5}, {Hi: 1, Lo: 5}}, of(5, 5)}, // only the low word is the same
	} {
		if got, err := Free(c.set, c.taken); err != api.OK || !slices.Equal(got, c.want) {
			t.Errorf("row %d: Free(%x, %x) is %x, %d", i, c.set, c.taken, got, err)
		}
	}
}

// unsound are lists that are no sets.
func unsound() [][]api.Range {
	lists := [][]api.Range{
		of(1, 3, 4, 5),       // they touch
		of(1, 3, 3, 5),       // they meet
		of(1, 9, 3, 5),       // one in the other
		of(1, 3, 1, 3),       // twice the same
		of(7, 9, 1, 3),       // they fall
		of(1, 3, 5, 7, 8, 9), // the last ones touch
		of(1, 3, 4, 7, 9, 9), // the first ones touch
		of(1, 3, 11, 12, 5, 6),
		{all, all}, {all, last}, {last, last},
		{last, of(0, 3)[0]}, {last, of(1, 3)[0]}, // going on at 0
		{all, of(1, 1)[0]},
		{between(api.Addr{}, api.Addr{Lo: ones}), between(api.Addr{Hi: 1}, top)},
	}
	for _, none := range noRanges() {
		lists = append(lists, list(none), list(of(0, 0)[0], none), list(none, last), list(of(0, 0)[0], none, last))
	}
	return lists
}

func TestFreeWrong(t *testing.T) {
	for _, set := range unsound() {
		for _, taken := range [][]api.Addr{nil, these(4), these(1, 2, 3, 4, 5), {set[0].First, set[len(set)-1].Last}, {top, {}}} {
			if got, err := Free(set, taken); err != api.ErrArg || len(got) > 0 {
				t.Errorf("Free(%x, %x) is %x, %d", set, taken, got, err)
			}
		}
	}
}

func TestManyRangesAndAddresses(t *testing.T) {
	const many = 1 << 17
	var pools, want []api.Range
	var out []api.Addr
	for i := uint64(many); i > 0; i-- {
		pools = append(pools, of(4*i, 4*i+2)...)
		out = append(out, api.Addr{Lo: 4*i + 1})
	}
	for i := uint64(1); i <= many; i++ {
		want = append(want, of(4*i, 4*i, 4*i+2, 4*i+2)...)
	}
	set, err := Build(pools, out)
	if err != api.OK || !slices.Equal(set, want) {
		t.Errorf("Build is %d ranges, %d", len(set), err)
	}
	set, err = Build(pools, nil)
	if err != api.OK || len(set) != many {
		t.Errorf("Build of all is %d ranges, %d", len(set), err)
	}
	left, err := Free(set, out)
	if err != api.OK || !slices.Equal(left, want) {
		t.Errorf("Free is %d ranges, %d", len(left), err)
	}
	if a, ok := Pick(left, 2*many-1); !ok || a != (api.Addr{Lo: 4*many + 2}) {
		t.Errorf("Pick is %x, %v", a, ok)
	}
}

// P12.3

func TestPick(t *testing.T) {
	line := between(api.Addr{Hi: 7}, api.Addr{Hi: 7, Lo: ones}) // 2^64 addresses
	short := between(api.Addr{Hi: 7, Lo: 1}, api.Addr{Hi: 7, Lo: ones})
	long := between(api.Addr{Hi: 7}, api.Addr{Hi: 8})
	for i, c := range []struct {
		set  []api.Range
		draw uint64
		want api.Addr
	}{
		{of(0, 0), 0, api.Addr{}},
		{of(0, 0), ones, api.Addr{}},
		{of(9, 9), 12345, api.Addr{Lo: 9}},
		{of(1, 3, 7, 9), 2, api.Addr{Lo: 3}},
		{of(1, 3, 7, 9), 3, api.Addr{Lo: 7}},
		{of(1, 3, 7, 9), 5, api.Addr{Lo: 9}},
		{of(1, 3, 7, 9), 6, one},
		{of(1, 3, 7, 9), ones, api.Addr{Lo: 7}}, // 3 modulo 6
		{list(last), 0, top},
		{list(last), ones, top},
		// all 2^128: the draw itself
		{list(all), 0, api.Addr{}},
		{list(all), 77, api.Addr{Lo: 77}},
		{list(all), 1 << 63, api.Addr{Lo: 1 << 63}},
		{list(all), ones, api.Addr{Lo: ones}},
		// all but one
		{list(between(one, top)), 0, one},
		{list(between(one, top)), ones, api.Addr{Hi: 1}},
		{list(of(0, 4)[0], between(api.Addr{Lo: 6}, top)), 5, api.Addr{Lo: 6}},
		{list(of(0, 4)[0], between(api.Addr{Lo: 6}, top)), ones, api.Addr{Hi: 1}},
		// 2^64 addresses, one less, and one more
		{list(line), ones, api.Addr{Hi: 7, Lo: ones}},
		{list(line), 5, api.Addr{Hi: 7, Lo: 5}},
		{list(short), ones - 1, api.Addr{Hi: 7, Lo: ones}},
		{list(short), ones, api.Addr{Hi: 7, Lo: 1}},
		{list(long), ones, api.Addr{Hi: 7, Lo: ones}},
		// of several ranges the count goes beyond a word
		{list(of(3, 4)[0], line), ones, api.Addr{Hi: 7, Lo: ones - 2}},
		{list(of(1, ones)[0], line), ones, api.Addr{Hi: 7}},
		{list(of(1, ones)[0], line), ones - 1, api.Addr{Lo: ones}},
	} {
		if a, ok := Pick(c.set, c.draw); !ok || a != c.want {
			t.Errorf("row %d: Pick(%x, %d) is %x, %v", i, c.set, c.draw, a, ok)
		}
	}
}

func TestPickOfNothing(t *testing.T) {
	for _, set := range append(unsound(), nil, list()) {
		for _, draw := range []uint64{0, 1, 2, 3, 5, 6, 1 << 32, 1 << 63, ones} {
			if a, ok := Pick(set, draw); ok || a != (api.Addr{}) {
				t.Errorf("Pick(%x, %d) is %x, %v", set, draw, a, ok)
			}
		}
	}
}

// P12.4

func TestOwn(t *testing.T) {
	high := api.Lease{Kind: api.NonT, What: api.Prefix{Addr: api.Addr{Hi: 1}, Bits: 128}}
	declined := api.Lease{Kind: api.NonT, What: api.Prefix{Addr: api.Addr{Lo: 3}, Bits: 128}, State: api.Declined}
	raw := api.Lease{Kind: api.NonT, What: api.Prefix{Addr: api.Addr{Lo: 9}, Bits: -5}, State: 77, Iaid: 5, Until: -1}
	bare := api.Lease{Kind: api.NonT}
	wide := api.Lease{Kind: api.Deleg, What: api.Prefix{Addr: api.Addr{Hi: 4}, Bits: 64}}
	narrow := api.Lease{Kind: api.Deleg, What: api.Prefix{Addr: api.Addr{Hi: 4}, Bits: 65}}
	odd := api.Lease{Kind: 99, What: api.Prefix{Addr: top}}
	leases := []api.Lease{has(api.NonT, 9), high, has(api.Temp, 2), declined, raw, narrow, odd, has(api.NonT, 4), has(api.Host, 8), bare, wide, has(api.Host, 8), has(0, 6), has(-1, 5)}
	for kind, want := range map[int][]api.Addr{
		api.NonT:    append(these(0, 3, 4, 9), high.What.Addr),
		api.Temp:    these(2),
		api.Host:    these(8),
		api.Deleg:   {wide.What.Addr},
		99:          {top},
		0:           these(6),
		-1:          these(5),
		5:           nil,
		100:         nil,
		math.MaxInt: nil,
		math.MinInt: nil,
	} {
		if got := Own(leases, kind); !slices.Equal(got, want) {
			t.Errorf("Own of kind %d is %x", kind, got)
		}
		if got := Own(nil, kind); len(got) > 0 {
			t.Errorf("Own of nothing, kind %d, is %x", kind, got)
		}
	}
	for _, kind := range []int{math.MinInt, math.MaxInt} {
		if got := Own([]api.Lease{has(kind, 3), has(api.Host, 4)}, kind); !slices.Equal(got, these(3)) {
			t.Errorf("Own of kind %d is %x", kind, got)
		}
	}
}

// P12.5

var (
	markRange = api.Range{First: api.Addr{Lo: 666}, Last: api.Addr{Lo: 665}}
	markAddr  = api.Addr{Hi: 666, Lo: 666}
	markLease = has(api.NonT, 666)
)

// roomy is a list with spare room behind it, in which marks stand.
func roomy[E any](list []E, mark E) []E {
	return append(slices.Clone(list), mark, mark, mark)[:len(list)]
}

func everything[E any](list []E) []E { return slices.Clone(list[:cap(list)]) }

func spoil[E any](list []E, mark E) {
	for i := range list[:cap(list)] {
		list[:cap(list)][i] = mark
	}
}

// lists are what is handed in to a call.
type lists struct {
	ranges []api.Range
	addrs  []api.Addr
	leases []api.Lease
}

func (l lists) roomy() lists {
	return lists{roomy(l.ranges, markRange), roomy(l.addrs, markAddr), roomy(l.leases, markLease)}
}

func (l lists) everything() lists {
	return lists{everything(l.ranges), everything(l.addrs), everything(l.leases)}
}

func (l lists) same(other lists) bool {
	return slices.Equal(l.ranges, other.ranges) && slices.Equal(l.addrs, other.addrs) && slices.Equal(l.leases, other.leases)
}

func (l lists) spoil() {
	spoil(l.ranges, markRange)
	spoil(l.addrs, markAddr)
	spoil(l.leases, markLease)
}

// keeps makes a call twice with lists that have spare room, and writes over all
// of one answer and then of what was handed in.
func keeps[E comparable](t *testing.T, what string, given lists, mark E, call func(given lists) []E) {
	t.Helper()
	given = given.roomy()
	before := given.everything()
	first := call(given)
	want := slices.Clone(first)
	second := call(given)
	if !given.everything().same(before) {
		t.Errorf("%s changes what is handed in: %v", what, before)
	}
	spoil(first, mark)
	if !given.everything().same(before) {
		t.Errorf("an answer of %s shares memory with what is handed in: %v", what, before)
	}
	if !slices.Equal(second, want) {
		t.Errorf("two answers of %s share memory: %v", what, before)
	}
	given.spoil()
	if !slices.Equal(second, want) {
		t.Errorf("an answer of %s hangs on what is handed in: %v", what, before)
	}
}

func TestNothingIsChangedOrShared(t *testing.T) {
	for _, addrs := range [][]api.Addr{nil, these(8, 2, 5, 2, 100), these(300, 200), these(1, 2, 3), these(9, 8, 7, 6, 5, 4, 3, 2, 1)} {
		for _, ranges := range [][]api.Range{nil, of(1, 9), of(7, 9, 1, 3, 4, 5), of(1, 9, 2, 3), of(1, 3, 3, 5, 1, 2), of(1, 3, 5, 7), of(1, 3, 5, 4), {all}} {
			given := lists{ranges: ranges, addrs: addrs}
			keeps(t, "Build", given, markRange, func(given lists) []api.Range {
				set, _ := Build(given.ranges, given.addrs)
				return set
			})
			keeps(t, "Free", given, markRange, func(given lists) []api.Range {
				left, _ := Free(given.ranges, given.addrs)
				return left
			})
			keeps(t, "Pick", given, markAddr, func(given lists) []api.Addr {
				a, _ := Pick(given.ranges, 5)
				return []api.Addr{a}
			})
		}
	}
	for _, leases := range [][]api.Lease{
		nil,
		{has(api.NonT, 7), has(api.NonT, 5), has(api.NonT, 7), has(api.Temp, 6)},
		{has(api.NonT, 1), has(api.NonT, 2), has(api.NonT, 3)},
		{has(api.Host, 3), has(api.Host, 2)},
	} {
		keeps(t, "Own", lists{leases: leases}, markAddr, func(given lists) []api.Addr { return Own(given.leases, api.NonT) })
	}
}
