package table

import (
	"math"
	"math/rand"
	"slices"
	"sort"
	"strings"
	"testing"

	"tenancy/api"
	"tenancy/lease"
)

// plain is a table once more, as plainly as the chapter can be written down, to
// hold the other one against: nothing but its leases, in any order.
type plain struct {
	leases []api.Lease
}

func sameKey(a api.Lease, b api.Lease) bool { return a.Kind == b.Kind && a.What == b.What }

func sameOwner(a api.Lease, b api.Lease) bool {
	return a.State == api.Bound && b.State == api.Bound && a.Kind == b.Kind && a.Client == b.Client && a.Iaid == b.Iaid
}

func meet(a api.Lease, b api.Lease) bool { return lease.Meets(a.Kind, a.What, b.Kind, b.What) }

// one makes a change, or tells why it can't be made.
func (m *plain) one(c api.Change) api.Errno {
	if !lease.Change(c) {
		return api.ErrLease
	}
	var others []api.Lease
	for _, l := range m.leases {
		if !sameKey(l, c.Lease) {
			others = append(others, l)
		}
	}
	there := len(others) < len(m.leases)
	if c.Gone {
		if !there {
			return api.ErrNone
		}
		m.leases = others
		return api.OK
	}
	for _, l := range others {
		if sameOwner(l, c.Lease) {
			return api.ErrTaken
		}
	}
	for _, l := range others {
		if meet(l, c.Lease) {
			return api.ErrMeet
		}
	}
	if !there && len(m.leases) == 1024 {
		return api.ErrFull
	}
	m.leases = append(others, c.Lease)
	return api.OK
}

func (m *plain) apply(list []api.Change) api.Errno {
	old := slices.Clone(m.leases)
	for _, c := range list {
		if err := m.one(c); err != api.OK {
			m.leases = old
			return err
		}
	}
	return api.OK
}

// those are the leases that are wanted, the one ahead first.
func (m *plain) those(wanted func(l api.Lease) bool, ahead func(a api.Lease, b api.Lease) bool) []api.Lease {
	var list []api.Lease
	for _, l := range m.leases {
		if wanted(l) {
			list = append(list, l)
		}
	}
	sort.Slice(list, func(i, j int) bool { return ahead(list[i], list[j]) })
	return list
}

func every(api.Lease) bool { return true }

// inOrder is whether a stands ahead of b.
func inOrder(a api.Lease, b api.Lease) bool {
	p, q := a.What, b.What
	switch {
	case a.Kind != b.Kind:
		return a.Kind < b.Kind
	case p.Addr.Hi != q.Addr.Hi:
		return p.Addr.Hi < q.Addr.Hi
	case p.Addr.Lo != q.Addr.Lo:
		return p.Addr.Lo < q.Addr.Lo
	}
	return p.Bits < q.Bits
}

// byEnd is whether a ends ahead of b.
func byEnd(a api.Lease, b api.Lease) bool {
	if a.Until != b.Until {
		return a.Until < b.Until
	}
	return inOrder(a, b)
}

// world is what is asked of a table: things, clients, identities and ticks.
type world struct {
	things  []thing
	clients []string
	iaids   []uint32
	ticks   []int
}

// thing is a kind and what may be leased.
type thing struct {
	kind int
	what api.Prefix
}

// same fails unless a table tells just what the plain one has.
func (w world) same(t *testing.T, got *Table, m *plain) {
	t.Helper()
	sameOfAll(t, got, m)
	for _, x := range w.things {
		asked := api.Lease{Kind: x.kind, What: x.what}
		list := m.those(func(l api.Lease) bool { return sameKey(l, asked) }, inOrder)
		found, ok := got.Find(x.kind, x.what)
		single(t, "Find", found, ok, list)
		list = m.those(func(l api.Lease) bool { return meet(asked, l) }, inOrder)
		equal(t, "Meets", got.Meets(x.kind, x.what), list...)
	}
	for _, client := range w.clients {
		list := m.those(func(l api.Lease) bool { return l.State == api.Bound && l.Client == client }, inOrder)
		equal(t, "Client", got.Client(client), list...)
		for _, iaid := range w.iaids {
			for kind := 0; kind < 6; kind++ {
				asked := api.Lease{Kind: kind, State: api.Bound, Client: client, Iaid: iaid}
				list := m.those(func(l api.Lease) bool { return sameOwner(l, asked) }, inOrder)
				found, ok := got.Of(kind, client, iaid)
				single(t, "Of", found, ok, list)
			}
		}
	}
	for _, now := range w.ticks {
		equal(t, "Due", got.Due(now), m.those(func(l api.Lease) bool { return l.Until <= now }, byEnd)...)
	}
}

// sameOfAll fails unless a table has just the leases of the plain one.
func sameOfAll(t *testing.T, got *Table, m *plain) {
	t.Helper()
	equal(t, "All", got.All(), m.those(every, inOrder)...)
	ends := m.those(every, byEnd)
	equal(t, "Due of the last tick", got.Due(math.MaxInt), ends...)
	if got.Size() != len(ends) {
		t.Fatalf("Size is %d, not %d", got.Size(), len(ends))
	}
	least, ok := got.Next()
	if len(ends) == 0 && (least != 0 || ok) || len(ends) > 0 && (least != ends[0].Until || !ok) {
		t.Fatalf("Next is %d, %v of %d leases", least, ok, len(ends))
	}
}

// equal fails unless a list is these leases.
func equal(t *testing.T, what string, got []api.Lease, want ...api.Lease) {
	t.Helper()
	if !slices.Equal(got, want) {
		t.Fatalf("%s is %x, not %x", what, got, want)
	}
}

// single fails unless an answer is the one lease of a list, or none of an empty one.
func single(t *testing.T, what string, got api.Lease, ok bool, list []api.Lease) {
	t.Helper()
	if len(list) > 1 {
		t.Fatalf("%s could answer %x", what, list)
	}
	if len(list) == 0 && (got != api.Lease{} || ok) || len(list) == 1 && (got != list[0] || !ok) {
		t.Fatalf("%s is %x, %v, not %x", what, got, ok, list)
	}
}

// small is a world in which most things are in one another's way.
func small() world {
	w := world{clients: []string{"", "a", "b", "\x00", strings.Repeat("c", 130)}, iaids: []uint32{0, 1, math.MaxUint32}}
	w.ticks = []int{math.MinInt, -1, 0, 1, 2, 3, 4, 5, 1<<40 - 1, 1 << 40, math.MaxInt}
	for kind := range 6 {
		for _, what := range []api.Prefix{
			host(0), host(1), host(2), host(1<<32 - 1), host(1 << 32), db8(0, 5, 128), db8(0, 6, 128), db8(0, 0, 128), db8(0xff, ones, 128), prefix(ones, ones, 128),
			db8(0, 4, 127), db8(0, 4, 126), db8(0, 0, 64), db8(0xff, 0, 64), db8(0, 0, 56), db8(0x100, 0, 56), db8(0, 0, 48), prefix(0, 0, 1), prefix(1<<63, 0, 1),
			prefix(0, 0, 0), prefix(0, 0, 64), prefix(0, 0, 127), db8(0, 5, 64), prefix(0, 0, 129), prefix(0, 0, -1),
		} {
			w.things = append(w.things, thing{kind, what})
		}
	}
	return w
}

// some is one of a list.
func some[T any](random *rand.Rand, list []T) T { return list[random.Intn(len(list))] }

// change is a random one of a world; few are none.
func (w world) change(random *rand.Rand, m *plain) api.Change {
	x := some(random, w.things)
	for random.Intn(20) > 0 && !lease.Right(x.kind, x.what) {
		x = some(random, w.things)
	}
	l := api.Lease{Kind: x.kind, What: x.what, State: api.Bound, Client: some(random, w.clients), Iaid: some(random, w.iaids), Until: some(random, w.ticks)}
	if len(m.leases) > 0 && random.Intn(3) == 0 {
		old := some(random, m.leases)
		l.Kind, l.What = old.Kind, old.What
	}
	for random.Intn(20) > 0 && (l.Until < 0 || l.Until > 1<<40) {
		l.Until = some(random, w.ticks)
	}
	if l.Kind == api.Host && random.Intn(20) > 0 {
		l.Iaid = 0
	}
	switch random.Intn(6) {
	case 0:
		l.State, l.Client, l.Iaid = api.Declined, "", 0
	case 1:
		return takeOut(l.Kind, l.What)
	}
	return putIn(l)
}

// P9.1 to P9.3, with random lists of changes, many of which can't be made.
func TestRandomChanges(t *testing.T) {
	random := rand.New(rand.NewSource(9))
	w := small()
	told := map[api.Errno]int{}
	for range 60 {
		table, m := New(), &plain{}
		for range 60 {
			var list []api.Change
			// What the changes ahead make is what those behind are picked by.
			next := &plain{leases: slices.Clone(m.leases)}
			for range 1 + random.Intn(5) {
				c := w.change(random, next)
				if next.one(c) != api.OK && random.Intn(4) > 0 {
					continue
				}
				list = append(list, c)
			}
			got, want := table.Apply(list), m.apply(list)
			if got != want {
				t.Fatalf("Apply of %v at %v is %d, not %d", list, m.leases, got, want)
			}
			told[got]++
			w.same(t, table, m)
		}
	}
	for _, err := range []api.Errno{api.OK, api.ErrLease, api.ErrNone, api.ErrTaken, api.ErrMeet} {
		if told[err] < 20 {
			t.Errorf("%d was answered but %d times", err, told[err])
		}
	}
}

// P9.1 to P9.3, near the limit, with all that the heap can be brought to.
func TestRandomChangesOfMany(t *testing.T) {
	random := rand.New(rand.NewSource(99))
	for _, spread := range []int{1, 30, 1 << 40} {
		table, m := New(), &plain{}
		told := map[api.Errno]int{}
		for range 60 {
			var list []api.Change
			for range random.Intn(120) {
				n := uint64(random.Intn(2500))
				list = append(list, putIn(bound(api.NonT, db8(0, n, 128), "a", uint32(n), random.Intn(spread))))
			}
			if old := m.those(every, inOrder); len(old) > 0 && random.Intn(3) == 0 {
				for _, i := range random.Perm(len(old))[:random.Intn(len(old)/8+1)] {
					list = append(list, takeOut(api.NonT, old[i].What))
				}
			}
			got, want := table.Apply(list), m.apply(list)
			if got != want {
				t.Fatalf("Apply of %d changes at %d leases is %d, not %d", len(list), len(m.leases), got, want)
			}
			told[got]++
			sameOfAll(t, table, m)
			sameOfAll(t, table.Copy(), m)
			now := random.Intn(spread)
			equal(t, "Due", table.Due(now), m.those(func(l api.Lease) bool { return l.Until <= now }, byEnd)...)
		}
		if told[api.OK] < 10 || told[api.ErrFull] < 5 {
			t.Errorf("of spread %d: %v", spread, told)
		}
	}
}
