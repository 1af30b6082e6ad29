package table

import (
	"math"
	"math/rand"
	"slices"
	"strings"
	"testing"

	"tenancy/api"
)

const ones = math.MaxUint64

// prefix is a prefix by its numbers, or none.
func prefix(hi uint64, lo uint64, bits int) api.Prefix {
	return api.Prefix{Addr: api.Addr{Hi: hi, Lo: lo}, Bits: bits}
}

// host is an address of DHCPv4, by its number.
func host(n uint64) api.Prefix { return prefix(0, n, 128) }

// db8 is a prefix in 2001:db8::/32, by what stands in its words beside that.
func db8(hi uint64, lo uint64, bits int) api.Prefix {
	return prefix(0x20010db800000000|hi, lo, bits)
}

// bound is a lease of a client; declined one that nobody has.
func bound(kind int, what api.Prefix, client string, iaid uint32, until int) api.Lease {
	return api.Lease{Kind: kind, What: what, State: api.Bound, Client: client, Iaid: iaid, Until: until}
}

func declined(kind int, what api.Prefix, until int) api.Lease {
	return api.Lease{Kind: kind, What: what, State: api.Declined, Until: until}
}

// four is a lease of an address of DHCPv4.
func four(n uint64, client string, until int) api.Lease {
	return bound(api.Host, host(n), client, 0, until)
}

// takeOut is the change that takes a lease out; putIn the one that puts it.
func takeOut(kind int, what api.Prefix) api.Change {
	return api.Change{Gone: true, Lease: api.Lease{Kind: kind, What: what}}
}

func putIn(l api.Lease) api.Change { return api.Change{Lease: l} }

func putAll(list ...api.Lease) []api.Change {
	var changes []api.Change
	for _, l := range list {
		changes = append(changes, putIn(l))
	}
	return changes
}

// having is a table with these leases.
func having(t *testing.T, list ...api.Lease) *Table {
	t.Helper()
	table := New()
	applied(t, table, api.OK, putAll(list...)...)
	return table
}

// applied fails unless Apply answers so.
func applied(t *testing.T, table *Table, want api.Errno, list ...api.Change) {
	t.Helper()
	if got := table.Apply(list); got != want {
		t.Fatalf("Apply of %d changes, the last ones %v, is %d, not %d", len(list), list[max(0, len(list)-3):], got, want)
	}
}

// found fails unless Find and Of both answer a Bound lease.
func found(t *testing.T, table *Table, l api.Lease) {
	t.Helper()
	got, ok := table.Find(l.Kind, l.What)
	single(t, "Find", got, ok, []api.Lease{l})
	got, ok = table.Of(l.Kind, l.Client, l.Iaid)
	single(t, "Of", got, ok, []api.Lease{l})
}

// missing fails unless neither Find nor Of answers a lease.
func missing(t *testing.T, table *Table, l api.Lease) {
	t.Helper()
	got, ok := table.Find(l.Kind, l.What)
	single(t, "Find", got, ok, nil)
	got, ok = table.Of(l.Kind, l.Client, l.Iaid)
	single(t, "Of", got, ok, nil)
}

// next fails unless Next answers so.
func next(t *testing.T, table *Table, want int, there bool) {
	t.Helper()
	if got, ok := table.Next(); got != want || ok != there {
		t.Fatalf("Next is %d, %v, not %d, %v", got, ok, want, there)
	}
}

// The chapter's examples.

func TestExamples(t *testing.T) {
	five, six, seven := four(5, "a", 10), four(6, "b", 9), four(7, "a", 10)
	table := having(t, five, six)
	next(t, table, 9, true)
	equal(t, "Due(9)", table.Due(9), six)
	equal(t, "Due(10)", table.Due(10), six, five)
	found(t, table, five)

	applied(t, table, api.ErrTaken, putIn(seven))
	applied(t, table, api.OK, takeOut(api.Host, host(5)), putIn(seven))
	applied(t, table, api.ErrNone, takeOut(api.Host, host(6)), takeOut(api.Host, host(6)))
	equal(t, "All", table.All(), six, seven)
	cs := four(7, "c", 3)
	applied(t, table, api.OK, putIn(cs))
	found(t, table, cs)
	got, ok := table.Of(api.Host, "a", 0)
	single(t, "Of", got, ok, nil)

	table = having(t, bound(api.Deleg, db8(0, 0, 56), "a", 0, 10))
	applied(t, table, api.ErrMeet, putIn(bound(api.NonT, db8(0, 5, 128), "b", 0, 10)))
}

// P9.1

func TestNew(t *testing.T) {
	table := New()
	if table == nil {
		t.Fatal("New is no table")
	}
	small().same(t, table, &plain{})
	applied(t, table, api.OK, putIn(four(5, "a", 10)))
	small().same(t, New(), &plain{})
}

func TestApplyOfNothing(t *testing.T) {
	table := having(t, four(5, "a", 10))
	for _, list := range [][]api.Change{nil, {}} {
		if err := table.Apply(list); err != api.OK {
			t.Errorf("Apply of none is %d", err)
		}
	}
	equal(t, "All", table.All(), four(5, "a", 10))
}

// refusal is a change, and what Apply answers.
type refusal struct {
	c    api.Change
	want api.Errno
}

// refusals are of changes at the leases of busy.
func refusals() []refusal {
	return []refusal{
		// No changes, whatever else could be said of them.
		{api.Change{}, api.ErrLease},
		{api.Change{Gone: true}, api.ErrLease},
		{takeOut(5, host(5)), api.ErrLease},
		{takeOut(api.Host, host(1<<32)), api.ErrLease},
		{takeOut(api.Deleg, db8(0, 5, 128)), api.ErrLease},
		{api.Change{Gone: true, Lease: four(5, "a", 10)}, api.ErrLease},
		{api.Change{Gone: true, Lease: api.Lease{Kind: api.Host, What: host(9), Until: 1}}, api.ErrLease},
		{putIn(bound(api.Host, host(7), "a", 1, 10)), api.ErrLease},
		{putIn(four(7, "", 10)), api.ErrLease},
		{putIn(four(7, strings.Repeat("c", 131), 10)), api.ErrLease},
		{putIn(four(7, "a", -1)), api.ErrLease},
		{putIn(four(7, "a", 1<<40+1)), api.ErrLease},
		{putIn(declined(api.Deleg, db8(0, 0, 64), 10)), api.ErrLease},
		{putIn(api.Lease{Kind: api.Host, What: host(5), Client: "a", Until: 10}), api.ErrLease},
		// Nothing has this key.
		{takeOut(api.Host, host(7)), api.ErrNone},
		{takeOut(api.Host, host(0)), api.ErrNone},
		{takeOut(api.NonT, host(5)), api.ErrNone},
		{takeOut(api.Temp, db8(0, 0x105, 128)), api.ErrNone},
		{takeOut(api.Deleg, db8(0x100, 0, 57)), api.ErrNone},
		{takeOut(api.Deleg, db8(0, 0, 56)), api.ErrNone},
		// The owner has another lease; ahead of what meets.
		{putIn(four(7, "a", 10)), api.ErrTaken},
		{putIn(four(6, "a", 10)), api.ErrTaken},
		{putIn(bound(api.NonT, db8(0, 0x107, 128), "a", 1, 10)), api.ErrTaken},
		{putIn(bound(api.NonT, db8(0x100, 7, 128), "a", 1, 10)), api.ErrTaken},
		{putIn(bound(api.Deleg, db8(0, 0, 32), "a", 1, 10)), api.ErrTaken},
		{putIn(bound(api.Temp, db8(0, 0x105, 128), "t", math.MaxUint32, 10)), api.ErrTaken},
		// Something is in the way.
		{putIn(bound(api.Temp, db8(0, 0x105, 128), "a", 9, 10)), api.ErrMeet},
		{putIn(bound(api.NonT, db8(0, 0x106, 128), "a", 9, 10)), api.ErrMeet},
		{putIn(bound(api.NonT, db8(0x100, 0, 128), "a", 9, 10)), api.ErrMeet},
		{putIn(bound(api.NonT, db8(0x1ff, ones, 128), "a", 9, 10)), api.ErrMeet},
		{putIn(bound(api.Deleg, db8(0x100, 0, 57), "a", 9, 10)), api.ErrMeet},
		{putIn(bound(api.Deleg, db8(0, 0, 55), "a", 9, 10)), api.ErrMeet},
		{putIn(bound(api.Deleg, db8(0, 0x104, 127), "a", 9, 10)), api.ErrMeet},
		{putIn(bound(api.Deleg, db8(0, 0x180, 121), "a", 9, 10)), api.ErrMeet},
		{putIn(declined(api.NonT, db8(0x100, 0, 128), 10)), api.ErrMeet},
		{putIn(declined(api.Temp, db8(0, 0x180, 128), 10)), api.ErrMeet},
	}
}

// busy are leases of all kinds, some of which nobody has.
func busy() []api.Lease {
	return []api.Lease{
		four(5, "a", 10), four(6, "b", 9), declined(api.Host, host(8), 9),
		bound(api.NonT, db8(0, 0x105, 128), "a", 1, 7), declined(api.NonT, db8(0, 0x180, 128), 12),
		bound(api.Temp, db8(0, 0x106, 128), "t", math.MaxUint32, 0), bound(api.Deleg, db8(0x100, 0, 56), "a", 1, 1<<40),
	}
}

// A change that can't be made is refused, whatever stands ahead of it and behind it.
func TestApplyRefuses(t *testing.T) {
	w, m := small(), &plain{leases: busy()}
	good := []api.Change{
		putIn(declined(api.Host, host(5), 3)), putIn(four(9, "c", 4)), putIn(bound(api.Host, host(6), "bb", 0, 11)), takeOut(api.Deleg, db8(0x100, 0, 56)),
	}
	for i, r := range refusals() {
		table := having(t, busy()...)
		applied(t, table, r.want, r.c)
		w.same(t, table, m)
		applied(t, table, r.want, r.c, api.Change{})
		w.same(t, table, m)
		for _, c := range good {
			applied(t, table, api.ErrLease, c, api.Change{}, r.c)
			applied(t, table, api.ErrNone, c, takeOut(api.Host, host(7)), r.c)
			w.same(t, table, m)
		}
		if r.want == api.ErrLease {
			applied(t, table, r.want, append(slices.Clone(good), r.c)...)
			w.same(t, table, m)
		}
		if t.Failed() {
			t.Fatalf("refusal %d", i)
		}
	}
}

// taking is changes that can be made, and how many leases there are then.
type taking struct {
	list []api.Change
	size int
}

// takings are of changes at the leases of busy.
func takings() []taking {
	return []taking{
		{putAll(four(5, "a", 10)), 7},                   // as it is
		{putAll(four(5, "a", 3)), 7},                    // renewed, or cut short
		{putAll(four(5, "c", 10)), 7},                   // another owner in its place
		{putAll(declined(api.Host, host(5), 20)), 7},    // nobody's
		{putAll(four(8, "c", 20)), 7},                   // nobody's no more
		{putAll(four(8, "c", 20), four(9, "d", 20)), 8}, // and one beside it
		{putAll(declined(api.Host, host(8), 1<<40)), 7}, // two that nobody has aren't in each other's way
		{putAll(declined(api.Host, host(9), 5)), 8},
		{putAll(declined(api.Temp, db8(0, 9, 128), 5)), 8},
		{putAll(bound(api.NonT, host(5), "a", 0, 10)), 8}, // of another family
		{putAll(bound(api.NonT, db8(0, 7, 128), "a", 0, 10)), 8},
		{putAll(bound(api.NonT, db8(0, 7, 128), "A", 1, 10)), 8},
		{putAll(bound(api.Temp, db8(0, 7, 128), "a", 1, 10)), 8},
		{putAll(bound(api.Temp, db8(0, 0x106, 128), "a", 1, 10)), 7},
		{putAll(bound(api.Deleg, db8(0x200, 0, 56), "a", 0, 10)), 8}, // beside the other prefix
		{[]api.Change{takeOut(api.Host, host(5))}, 6},
		{[]api.Change{takeOut(api.Host, host(8)), putIn(declined(api.Host, host(8), 9))}, 7},
		{[]api.Change{takeOut(api.Host, host(5)), putIn(four(7, "a", 10))}, 7}, // from one place to another
		{[]api.Change{putIn(four(5, "c", 10)), putIn(four(7, "a", 10))}, 8},    // driven out, and given another one
		{[]api.Change{putIn(declined(api.Host, host(5), 10)), putIn(four(7, "a", 10))}, 8},
		{[]api.Change{putIn(four(7, "c", 1)), takeOut(api.Host, host(7)), putIn(four(9, "c", 1)), takeOut(api.Host, host(9))}, 7},
		{[]api.Change{takeOut(api.Deleg, db8(0x100, 0, 56)), putIn(bound(api.Deleg, db8(0x100, 0, 57), "a", 1, 10))}, 7},
		{[]api.Change{takeOut(api.Deleg, db8(0x100, 0, 56)), putIn(bound(api.NonT, db8(0x1ff, 5, 128), "d", 1, 10))}, 7},
		{[]api.Change{takeOut(api.NonT, db8(0, 0x105, 128)), putIn(bound(api.Temp, db8(0, 0x105, 128), "a", 1, 10))}, 7},
	}
}

func TestApplyTakes(t *testing.T) {
	w := small()
	for i, r := range takings() {
		table, m := having(t, busy()...), &plain{leases: busy()}
		applied(t, table, api.OK, r.list...)
		if table.Size() != r.size {
			t.Errorf("taking %d leaves %d leases", i, table.Size())
		}
		m.apply(r.list)
		w.same(t, table, m)
	}
}

// The owners are told apart, in the answer of a put, by each part of them.
func TestApplyAsksTheOwner(t *testing.T) {
	for _, kind := range []int{api.NonT, api.Temp} {
		table := having(t, bound(kind, db8(0, 5, 128), "a", 1<<31, 10))
		applied(t, table, api.ErrTaken, putIn(bound(kind, db8(0, 6, 128), "a", 1<<31, 10)))
		applied(t, table, api.ErrTaken, putIn(bound(kind, db8(0, 6, 128), "a", 1<<31, 3)))
		applied(t, table, api.OK, putIn(bound(kind, db8(0, 6, 128), "a", 0, 10)))
		applied(t, table, api.OK, putIn(bound(kind, db8(0, 7, 128), "a\x00", 1<<31, 10)))
		applied(t, table, api.OK, putIn(bound(api.NonT+api.Temp-kind, db8(0, 8, 128), "a", 1<<31, 10)))
		applied(t, table, api.OK, putIn(bound(api.Deleg, db8(1, 0, 64), "a", 1<<31, 10)))
		applied(t, table, api.ErrTaken, putIn(bound(api.Deleg, db8(2, 0, 64), "a", 1<<31, 10)))
		applied(t, table, api.OK, putIn(declined(kind, db8(0, 5, 128), 10)))
		applied(t, table, api.OK, putIn(bound(kind, db8(0, 9, 128), "a", 1<<31, 10)))
	}
}

// many are the leases from 0 to n - 1, of an owner each.
func many(n int) []api.Lease {
	var list []api.Lease
	for i := range n {
		list = append(list, bound(api.NonT, db8(0, uint64(i), 128), "a", uint32(i), i))
	}
	return list
}

func TestApplyAtTheLimit(t *testing.T) {
	more := bound(api.NonT, db8(0, 1024, 128), "a", 1024, 5)
	table := having(t, many(1023)...)
	applied(t, table, api.ErrFull, putIn(more), putIn(declined(api.Host, host(5), 1)))
	sameOfAll(t, table, &plain{leases: many(1023)})
	applied(t, table, api.OK, putIn(many(1024)[1023]))
	full := &plain{leases: many(1024)}
	sameOfAll(t, table, full)

	applied(t, table, api.ErrFull, putIn(more))
	applied(t, table, api.ErrFull, putIn(declined(api.Host, host(5), 1)))
	applied(t, table, api.ErrFull, takeOut(api.NonT, db8(0, 0, 128)), putIn(more), putIn(declined(api.Host, host(5), 1)))
	applied(t, table, api.ErrLease, putIn(bound(api.NonT, more.What, "", 0, 5)))
	applied(t, table, api.ErrNone, takeOut(api.NonT, more.What))
	applied(t, table, api.ErrTaken, putIn(bound(api.NonT, more.What, "a", 7, 5)))
	applied(t, table, api.ErrMeet, putIn(bound(api.Temp, db8(0, 7, 128), "a", 7, 5)))
	sameOfAll(t, table, full)

	other := bound(api.NonT, db8(0, 7, 128), "b", 7, 2000)
	applied(t, table, api.OK, putIn(other))
	applied(t, table, api.OK, takeOut(api.NonT, db8(0, 0, 128)), putIn(more))
	full.apply([]api.Change{putIn(other), takeOut(api.NonT, db8(0, 0, 128)), putIn(more)})
	sameOfAll(t, table, full)
	applied(t, table, api.ErrFull, putIn(declined(api.Host, host(5), 1)))
}

// A list may have any length; what is refused at its end changes nothing.
func TestApplyOfLongLists(t *testing.T) {
	var list []api.Change
	for i := range 1500 {
		list = append(list, putIn(four(5, "a", i)), putIn(four(6, "b", i)), takeOut(api.Host, host(5)))
	}
	table, m := having(t, four(7, "c", 3)), &plain{leases: []api.Lease{four(7, "c", 3)}}
	applied(t, table, api.ErrNone, append(slices.Clone(list), takeOut(api.Host, host(5)))...)
	sameOfAll(t, table, m)
	applied(t, table, api.OK, list...)
	equal(t, "All", table.All(), four(6, "b", 1499), four(7, "c", 3))
}

// P9.2

func TestFindAndOf(t *testing.T) {
	table := having(t, busy()...)
	for _, l := range busy() {
		got, ok := table.Find(l.Kind, l.What)
		single(t, "Find", got, ok, []api.Lease{l})
		if l.State == api.Bound {
			found(t, table, l)
		}
	}
	for _, l := range []api.Lease{
		four(7, "c", 0), {}, bound(api.NonT, host(5), "b", 0, 0), bound(api.Temp, db8(0, 0x105, 128), "a", 1, 0), bound(api.Host, prefix(0, 5, 127), "a", 1, 0),
		bound(api.Deleg, db8(0x100, 0, 57), "a", 0, 0), bound(api.Deleg, db8(0x100, 0, 128), "t", 1, 0), bound(257, host(5), "a", 0, 0),
		bound(math.MinInt, host(5), "a", 0, 0), bound(math.MaxInt, prefix(ones, ones, math.MaxInt), "\x00", math.MaxUint32, 0),
		bound(api.NonT, prefix(0, 0x105, 128), "a", 0, 0), bound(api.Temp, db8(0, 0x107, 128), "tt", math.MaxUint32, 0), bound(api.Temp, db8(0, 0x107, 128), "t", 1, 0),
	} {
		missing(t, table, l)
	}
	// Nobody has a declined one: the client "" doesn't either.
	for kind := range 6 {
		got, ok := table.Of(kind, "", 0)
		single(t, "Of", got, ok, nil)
	}
	equal(t, "Client", table.Client(""))
}

func TestClient(t *testing.T) {
	long := strings.Repeat("c", 130)
	list := []api.Lease{
		four(9, "a", 1), bound(api.NonT, db8(0, 5, 128), "a", 9, 3), bound(api.NonT, db8(0, 7, 128), "a", 0, 1), bound(api.NonT, db8(1, 0, 128), "a", 8, 2),
		bound(api.Temp, db8(0, 4, 128), "a", 9, 9), bound(api.Deleg, db8(0x100, 0, 56), "a", 1, 5), bound(api.Deleg, db8(0x200, 0, 55), "a", 2, 4),
	}
	others := []api.Lease{four(5, "b", 0), declined(api.Host, host(6), 0), four(7, long, 4), bound(api.NonT, db8(0, 6, 128), "a\x00", 9, 3), bound(api.NonT, db8(0, 8, 128), "A", 9, 3)}
	random := rand.New(rand.NewSource(1))
	for range 20 {
		all := slices.Concat(list, others)
		random.Shuffle(len(all), func(i, j int) { all[i], all[j] = all[j], all[i] })
		table := having(t, all...)
		equal(t, "Client", table.Client("a"), list...)
		equal(t, "Client", table.Client("b"), others[0])
		equal(t, "Client", table.Client(long), others[2])
		for _, client := range []string{"", "c", "aa", long[1:], long + "c", strings.Repeat("\x00", 1<<16)} {
			equal(t, "Client", table.Client(client))
		}
	}
	// One that nobody has any more isn't its client's.
	table := having(t, list...)
	applied(t, table, api.OK, putIn(declined(api.Host, host(9), 1)), takeOut(api.Temp, db8(0, 4, 128)), putIn(bound(api.NonT, db8(0, 7, 128), "b", 0, 1)))
	equal(t, "Client", table.Client("a"), list[1], list[3], list[5], list[6])
}

func TestMeets(t *testing.T) {
	list := []api.Lease{
		four(5, "a", 1), declined(api.Host, host(6), 1), bound(api.NonT, host(5), "a", 0, 1), bound(api.NonT, db8(0x100, 5, 128), "a", 1, 1),
		declined(api.NonT, db8(0x17f, ones, 128), 1), bound(api.NonT, db8(0x200, 0, 128), "a", 2, 1), bound(api.Temp, db8(0x100, 4, 128), "a", 0, 1),
		bound(api.Deleg, db8(0x140, 0, 60), "a", 0, 1), bound(api.Deleg, db8(0x180, 0, 57), "b", 0, 1),
	}
	table := having(t, list...)
	for _, c := range []struct {
		kind int
		what api.Prefix
		want []api.Lease
	}{
		{api.Host, host(5), list[0:1]},
		{api.Host, host(6), list[1:2]},
		{api.Host, host(7), nil},
		{api.NonT, host(5), list[2:3]},
		{api.Temp, host(5), list[2:3]},
		{api.NonT, host(6), nil},
		{api.Temp, db8(0x100, 5, 128), list[3:4]},
		{api.NonT, db8(0x100, 4, 128), list[6:7]},
		{api.NonT, db8(0x180, 0, 128), list[8:9]},
		{api.Temp, db8(0x1ff, ones, 128), list[8:9]},
		{api.NonT, db8(0x200, 1, 128), nil},
		{api.Deleg, db8(0x100, 0, 56), []api.Lease{list[3], list[4], list[6], list[7], list[8]}},
		{api.Deleg, db8(0x100, 4, 127), []api.Lease{list[3], list[6]}},
		{api.Deleg, db8(0x180, 0, 57), list[8:9]},
		{api.Deleg, db8(0x180, 0, 58), list[8:9]},
		{api.Deleg, db8(0, 0, 32), []api.Lease{list[3], list[4], list[5], list[6], list[7], list[8]}},
		{api.Deleg, prefix(0, 0, 1), []api.Lease{list[2], list[3], list[4], list[5], list[6], list[7], list[8]}},
		{api.Deleg, prefix(1<<63, 0, 1), nil},
		{api.Deleg, db8(0x300, 0, 56), nil},
		// What can't be leased meets nothing.
		{api.Host, host(1 << 32), nil},
		{api.Host, prefix(0, 4, 127), nil},
		{api.NonT, db8(0x100, 4, 127), nil},
		{api.Deleg, prefix(0, 0, 0), nil},
		{api.Deleg, host(5), nil},
		{api.Deleg, db8(0x180, 0, 56), nil},
		{0, host(5), nil},
		{5, host(5), nil},
		{257, host(5), nil},
		{math.MinInt, prefix(0, 0, math.MinInt), nil},
	} {
		equal(t, "Meets", table.Meets(c.kind, c.what), c.want...)
	}
}

// P9.3

func TestAllInOrder(t *testing.T) {
	list := []api.Lease{
		four(0, "a", 9), four(9, "b", 1), four(1<<32-1, "c", 5),
		bound(api.NonT, host(5), "a", 0, 3), bound(api.NonT, prefix(0, ones, 128), "a", 1, 3), bound(api.NonT, prefix(1, 0, 128), "a", 2, 2), bound(api.NonT, prefix(ones, 0, 128), "a", 3, 1),
		declined(api.Temp, host(4), 8), bound(api.Temp, prefix(1<<63, 1, 128), "a", 0, 7),
		bound(api.Deleg, prefix(2, 1<<63, 65), "a", 0, 4), bound(api.Deleg, prefix(3, 1<<62, 66), "a", 1, 2), bound(api.Deleg, db8(0, 0, 64), "a", 2, 6), bound(api.Deleg, db8(0x100, 0, 56), "a", 3, 0),
	}
	random := rand.New(rand.NewSource(2))
	for range 30 {
		shuffled := slices.Clone(list)
		random.Shuffle(len(list), func(i, j int) { shuffled[i], shuffled[j] = shuffled[j], shuffled[i] })
		table := having(t, shuffled...)
		equal(t, "All", table.All(), list...)
		equal(t, "All of a copy", table.Copy().All(), list...)
	}
}

func TestDueAndNext(t *testing.T) {
	list := []api.Lease{
		declined(api.Temp, host(7), 0), bound(api.Deleg, prefix(1<<63, 0, 1), "a", 0, 0), four(4, "a", 1), four(9, "b", 5), bound(api.NonT, host(3), "a", 0, 5),
		declined(api.NonT, host(4), 5), bound(api.Deleg, db8(0, 0, 64), "b", 0, 5), four(1, "c", 6), bound(api.Temp, host(1), "a", 0, 1<<40-1), four(0, "d", 1<<40),
	}
	random := rand.New(rand.NewSource(3))
	for range 50 {
		shuffled := slices.Clone(list)
		random.Shuffle(len(list), func(i, j int) { shuffled[i], shuffled[j] = shuffled[j], shuffled[i] })
		table := having(t, shuffled...)
		for now, n := range map[int]int{
			math.MinInt: 0, -1: 0, 0: 2, 1: 3, 2: 3, 4: 3, 5: 7, 6: 8, 7: 8, 1<<40 - 2: 8, 1<<40 - 1: 9, 1 << 40: 10, 1<<40 + 1: 10, math.MaxInt: 10,
		} {
			equal(t, "Due", table.Due(now), list[:n]...)
		}
		// Whatever ends first is taken out: the next one is told.
		for i, l := range list {
			next(t, table, l.Until, true)
			equal(t, "Due", table.Due(l.Until)[:1], l)
			if table.Size() != len(list)-i {
				t.Fatalf("Size is %d, not %d", table.Size(), len(list)-i)
			}
			applied(t, table, api.OK, takeOut(l.Kind, l.What))
		}
		next(t, table, 0, false)
		equal(t, "Due", table.Due(math.MaxInt))
	}
}

// A lease that is put again ends when it says then.
func TestDueOfRenewed(t *testing.T) {
	table := having(t, four(1, "a", 5), four(2, "b", 6), four(3, "c", 7))
	applied(t, table, api.OK, putIn(four(1, "a", 9)))
	next(t, table, 6, true)
	equal(t, "Due", table.Due(8), four(2, "b", 6), four(3, "c", 7))
	applied(t, table, api.OK, putIn(declined(api.Host, host(3), 2)))
	next(t, table, 2, true)
	equal(t, "Due", table.Due(6), declined(api.Host, host(3), 2), four(2, "b", 6))
	// What is refused brings the old ends back.
	applied(t, table, api.ErrLease, putIn(four(2, "b", 0)), takeOut(api.Host, host(3)), putIn(four(1, "a", 1)), api.Change{})
	next(t, table, 2, true)
	equal(t, "Due", table.Due(9), declined(api.Host, host(3), 2), four(2, "b", 6), four(1, "a", 9))
}

func TestCopy(t *testing.T) {
	w := small()
	table, m := having(t, busy()...), &plain{leases: busy()}
	other := table.Copy()
	w.same(t, other, m)
	changes := []api.Change{takeOut(api.Host, host(5)), putIn(four(7, "a", 1)), putIn(four(6, "c", 2)), putIn(declined(api.NonT, db8(0, 0x105, 128), 3))}
	changed := &plain{leases: busy()}
	changed.apply(changes)

	applied(t, other, api.OK, changes...)
	w.same(t, other, changed)
	w.same(t, table, m)
	third := other.Copy()
	applied(t, table, api.ErrNone, append(slices.Clone(changes), takeOut(api.Host, host(5)))...)
	w.same(t, table, m)
	w.same(t, other, changed)
	applied(t, table, api.OK, changes...)
	applied(t, other, api.OK, takeOut(api.Host, host(7)), takeOut(api.Host, host(6)))
	w.same(t, table, changed)
	w.same(t, third, changed)

	w.same(t, New().Copy(), &plain{})
	full := having(t, many(1024)...).Copy()
	applied(t, full, api.ErrFull, putIn(four(5, "a", 1)))
	sameOfAll(t, full, &plain{leases: many(1024)})
}

// P9.4

func TestWhatIsHandedInStays(t *testing.T) {
	for _, last := range []api.Change{takeOut(api.Host, host(6)), takeOut(api.Host, host(7)), {}} {
		list := append(putAll(busy()...), putIn(four(5, "a", 3)), last)
		room := append(slices.Clone(list), putAll(many(5)...)...)
		kept := slices.Clone(room)
		table := New()
		err := table.Apply(room[:len(list)])
		if !slices.Equal(room, kept) {
			t.Fatalf("behind %d the list is %v, not %v", err, room, kept)
		}
		// It isn't kept either.
		m := &plain{}
		m.apply(kept[:len(list)])
		clear(room)
		small().same(t, table, m)
	}
}

// spoil writes over a list and into its spare room.
func spoil(list []api.Lease) {
	whole := list[:cap(list)]
	for i := range whole {
		whole[i] = four(77, "spoilt", 77)
	}
}

func TestAnswersAreNewMemory(t *testing.T) {
	w, m := small(), &plain{leases: busy()}
	table := having(t, busy()...)
	ask := []func() []api.Lease{
		table.All, func() []api.Lease { return table.Client("a") }, func() []api.Lease { return table.Due(10) },
		func() []api.Lease { return table.Meets(api.Deleg, db8(0, 0, 32)) }, func() []api.Lease { return table.Client("b") },
	}
	for i := range ask {
		first, second := ask[i](), ask[i]()
		kept := slices.Clone(second)
		spoil(first)
		equal(t, "another answer", second, kept...)
		w.same(t, table, m)
		spoil(second)
		applied(t, table, api.OK, takeOut(api.Host, host(5)), putIn(four(5, "a", 10)))
		w.same(t, table, m)
	}
}

// Of no table.

func TestNilTable(t *testing.T) {
	var table *Table
	for _, list := range [][]api.Change{nil, putAll(busy()...), {{}}, {takeOut(api.Host, host(5))}} {
		if err := table.Apply(list); err != api.ErrNil {
			t.Errorf("Apply of %v is %d", list, err)
		}
	}
	small().same(t, table, &plain{})
	if table.Copy() != nil {
		t.Error("Copy is a table")
	}
}
