package vault

import (
	"fmt"
	"slices"
	"strings"
	"testing"

	"tenancy/api"
	"tenancy/files"
	"tenancy/table"
)

// The chapter's examples.

func TestExamples(t *testing.T) {
	d := files.New()
	v := opened(t, d, 0, 0)
	five := four(5, "a", 10)
	commit(t, v, putIn(five))
	holds(t, d, "log-0", framed(one(putIn(five))))
	want(t, "Compact", v.Compact(), api.OK)
	holds(t, d, "snap", snapshot(1, five))
	tells(t, v, 1, 0, five)
	commit(t, v, takeOut(five))
	holds(t, d, "log-1", framed(one(takeOut(five))), "snap", snapshot(1, five))

	still(t, d, "Commit", func() api.Errno { return v.Commit([]api.Change{takeOut(four(9, "", 0))}) }, api.ErrNone)
	still(t, d, "Commit", func() api.Errno { return v.Commit(slices.Repeat([]api.Change{putIn(five)}, 2049)) }, api.ErrLong)
}

func TestExampleOfThePower(t *testing.T) {
	five := four(5, "a", 10)
	log := framed(one(putIn(five)))
	ready := func(n int) *files.Disk {
		d := files.New()
		v := opened(t, d, 0, 0)
		commit(t, v, putIn(five))
		d.Arm(n, 0)
		want(t, "Compact", v.Compact(), api.ErrDown)
		d.On()
		return d
	}
	// Two frames, the sync, the renaming, the deletion.
	d := ready(3)
	holds(t, d, "log-0", log, "new", snapshot(1, five))
	opened(t, d, 0, len(log), five)
	holds(t, d, "log-0", log)
	d = ready(4)
	holds(t, d, "log-0", log, "snap", snapshot(1, five))
	opened(t, d, 1, 0, five)
	holds(t, d, "snap", snapshot(1, five))
}

// P10.2

func TestCommit(t *testing.T) {
	five, six := four(5, "a", 10), four(6, "b", 9)
	d := files.New()
	v := opened(t, d, 0, 0)
	var log string
	var leases plain
	for _, changes := range [][]api.Change{
		{putIn(five)},
		{putIn(six), putIn(four(5, "a", 20))},
		{takeOut(five), putIn(four(7, "a", 20))},
		{takeOut(six), takeOut(four(7, "", 0))},
		putAll(several()...),
		{takeOut(five), putIn(five), takeOut(five)},
		putAll(many(1024 - len(several()) + 1)...),
		{putIn(declined(api.NonT, db8(0, 5, 128), 0)), putIn(four(1000, "z", 1<<40))},
	} {
		steps := d.Steps()
		commit(t, v, changes...)
		log += framed(one(changes...))
		leases = leases.after(changes...)
		holds(t, d, "log-0", log)
		tells(t, v, 0, len(log), leases...)
		if d.Steps() != steps+2 || v.Ended() {
			t.Fatalf("Commit did %d operations, and the vault is ended: %v", d.Steps()-steps, v.Ended())
		}
	}
	opened(t, d, 0, len(log), leases...)
}

func TestCommitOfNothing(t *testing.T) {
	d := files.New()
	v := opened(t, d, 0, 0)
	for range 2 {
		for _, list := range [][]api.Change{nil, {}, make([]api.Change, 0, 5)} {
			still(t, d, "Commit", func() api.Errno { return v.Commit(list) }, api.OK)
		}
		commit(t, v, putIn(four(5, "a", 10)))
	}
	d.Off(0)
	want(t, "Commit", v.Commit(nil), api.ErrDown)
	d.On()
	want(t, "Commit", v.Commit(nil), api.ErrDown)
}

// heavy are changes whose record has so many bytes, 37 or more.
func heavy(t *testing.T, bytes int) []api.Change {
	t.Helper()
	const ahead = 34 // bytes of a change that stand ahead of its client's
	var changes []api.Change
	for rest := bytes - 2; rest > 0; {
		n := min(rest, ahead+api.MaxClient)
		if left := rest - n; 0 < left && left <= ahead {
			n -= ahead
		}
		rest -= n
		l := four(uint64(len(changes)), fmt.Sprintf("%0*d", n-ahead, len(changes)), 1)
		if rest == 0 {
			l = four(999, strings.Repeat("z", n-ahead), 1)
		}
		changes = append(changes, putIn(l))
	}
	if got := len(one(changes...)); got != bytes {
		t.Fatalf("the record has %d bytes, not %d", got, bytes)
	}
	return changes
}

// Each list is refused for the first error that applies, and nothing is written.
func TestCommitRefuses(t *testing.T) {
	five, deleg := four(5, "a", 10), bound(api.Deleg, db8(0, 0, 56), "b", 0, 9)
	wrong, none, taken := putIn(four(6, "", 9)), takeOut(four(6, "", 0)), putIn(four(6, "a", 9))
	meets := putIn(bound(api.NonT, db8(0, 5, 128), "c", 0, 9))
	again := slices.Repeat([]api.Change{putIn(five), takeOut(five)}, 1100)
	for _, row := range []struct {
		what    string
		changes []api.Change
		err     api.Errno
	}{
		{"2049 changes", again[:2049], api.ErrLong},
		{"2049 that are none", slices.Repeat([]api.Change{wrong}, 2049), api.ErrLong},
		{"far too many", slices.Repeat([]api.Change{putIn(five)}, 100000), api.ErrLong},
		{"the zero change", make([]api.Change, 1), api.ErrLease},
		{"no change", []api.Change{wrong}, api.ErrLease},
		{"no change behind one that can't be made", []api.Change{none, wrong}, api.ErrLease},
		{"no change behind 2047 others", append(again[:2047:2047], wrong), api.ErrLease},
		{"no change behind too many bytes", append(heavy(t, 65537), wrong), api.ErrLease},
		{"a byte too many", heavy(t, 65537), api.ErrLong},
		{"too many bytes, taken", append([]api.Change{taken}, heavy(t, 65536)...), api.ErrLong},
		{"too many bytes, and none", append(heavy(t, 65536), none), api.ErrLong},
		{"one that isn't there", []api.Change{none}, api.ErrNone},
		{"one gone twice", []api.Change{takeOut(five), takeOut(five)}, api.ErrNone},
		{"an owner with two", []api.Change{taken}, api.ErrTaken},
		{"an owner with two, behind right ones", []api.Change{takeOut(five), putIn(five), putIn(four(7, "c", 1)), taken}, api.ErrTaken},
		{"an address in a prefix", []api.Change{putIn(four(7, "c", 1)), meets}, api.ErrMeet},
		{"1025 leases", putAll(many(1023)...), api.ErrFull},
	} {
		t.Log(row.what)
		d := files.New()
		v := opened(t, d, 0, 0)
		commit(t, v, putIn(five), putIn(deleg))
		log := framed(one(putIn(five), putIn(deleg)))
		for range 2 {
			still(t, d, "Commit", func() api.Errno { return v.Commit(row.changes) }, row.err)
			tells(t, v, 0, len(log), five, deleg)
		}
		// Nor is the vault ended.
		commit(t, v, takeOut(five))
		opened(t, d, 0, len(log+framed(one(takeOut(five)))), deleg)
	}
}

func TestCommitAtItsLimits(t *testing.T) {
	d := files.New()
	v := opened(t, d, 0, 0)
	var leases plain
	size := 0
	five := four(5, "a", 10)
	for _, changes := range [][]api.Change{
		heavy(t, 65535), heavy(t, 65536), slices.Repeat([]api.Change{takeOut(five), putIn(five)}, 1024),
	} {
		commit(t, v, changes...)
		leases = leases.after(changes...)
		size += len(framed(one(changes...)))
		opened(t, d, 0, size, leases...)
	}
}

// A log that is full is told, and ends nothing: what is shorter goes behind it,
// and a Compact makes room.
func TestCommitToFullLog(t *testing.T) {
	d := files.New()
	v := opened(t, d, 0, 0)
	full := heavy(t, 65536)
	for range 15 {
		commit(t, v, full...)
	}
	leases := plain(nil).after(full...)
	left := api.MaxFile - 15*65544 - 8
	for range 2 {
		for _, bytes := range []int{left + 1, 65536} {
			still(t, d, "Commit", func() api.Errno { return v.Commit(heavy(t, bytes)) }, api.ErrFull)
		}
		still(t, d, "Commit", func() api.Errno { return v.Commit([]api.Change{takeOut(four(998, "", 0))}) }, api.ErrNone)
		tells(t, v, 0, 15*65544, leases...)
	}
	last := heavy(t, left)
	commit(t, v, last...)
	leases = leases.after(last...)
	for range 2 {
		still(t, d, "Commit", func() api.Errno { return v.Commit([]api.Change{takeOut(leases[0])}) }, api.ErrFull)
		opened(t, d, 0, api.MaxFile, leases...)
		tells(t, v, 0, api.MaxFile, leases...)
	}
	want(t, "Compact", v.Compact(), api.OK)
	commit(t, v, takeOut(leases[0]))
	holds(t, d, "log-1", framed(one(takeOut(leases[0]))), "snap", snapshot(1, leases...))
}

// crowd gives a disk as many files as it takes, which no vault minds.
func crowd(t *testing.T, d *files.Disk) {
	t.Helper()
	for i := len(d.Names()); i < api.MaxFiles; i++ {
		write(t, d, fmt.Sprint("f", i), "x")
	}
}

// A disk that is full of files has no room for a log, or for a new snapshot; but
// it has for what goes behind a log that there is.
func TestFullDisk(t *testing.T) {
	five, six := four(5, "a", 10), four(6, "b", 9)
	d := files.New()
	v := opened(t, d, 0, 0)
	crowd(t, d)
	for range 2 {
		still(t, d, "Commit", func() api.Errno { return v.Commit(putAll(five)) }, api.ErrFull)
		still(t, d, "Compact", v.Compact, api.ErrFull)
		tells(t, v, 0, 0)
	}
	want(t, "Delete", d.Delete("f0"), api.OK)
	commit(t, v, putIn(five))
	for range 2 {
		still(t, d, "Compact", v.Compact, api.ErrFull)
		commit(t, v, putIn(six))
	}
	tells(t, v, 0, len(framed(one(putIn(five)), one(putIn(six)), one(putIn(six)))), five, six)
	want(t, "Delete", d.Delete("f1"), api.OK)
	for i := range 3 {
		// While it is made, the new snapshot is a file more.
		want(t, "Compact", v.Compact(), api.OK)
		commit(t, v, takeOut(six), putIn(six))
		opened(t, d, i+1, len(framed(one(takeOut(six), putIn(six)))), five, six)
		if i == 0 {
			want(t, "Delete", d.Delete("f2"), api.OK)
		}
	}
	if v.Ended() {
		t.Error("the vault is ended")
	}
}

// P10.3

// A snapshot has as many records as are needed, and each of them is an operation.
func TestCompact(t *testing.T) {
	for _, leases := range [][]api.Lease{nil, several(), many(1), many(63), many(64), many(65), many(127), many(128), many(129), many(1023), many(1024)} {
		d := having(t, "a", "x")
		v := opened(t, d, 0, 0)
		operations := 1 + (len(leases)+63)/64 + 2
		if len(leases) > 0 {
			commit(t, v, putAll(leases...)...)
			operations++
		}
		for i := range 3 {
			steps := d.Steps()
			want(t, "Compact", v.Compact(), api.OK)
			holds(t, d, "a", "x", "snap", snapshot(uint64(i+1), leases...))
			tells(t, v, i+1, 0, leases...)
			if d.Steps() != steps+operations || v.Ended() {
				t.Fatalf("Compact of %d leases did %d operations, not %d", len(leases), d.Steps()-steps, operations)
			}
			opened(t, d, i+1, 0, leases...)
			operations = 1 + (len(leases)+63)/64 + 2
		}
	}
}

// A log grows from nothing behind each Compact, and has a name of its own.
func TestCompactAgainAndAgain(t *testing.T) {
	d := files.New()
	v := opened(t, d, 0, 0)
	var leases plain
	for i := range 120 {
		old := leases
		c := putIn(four(uint64(i%7), "a", i))
		if i%2 == 1 {
			c = takeOut(leases[0])
		}
		commit(t, v, c)
		leases = leases.after(c)
		list := []string{fmt.Sprint("log-", i), framed(one(c)), "snap", snapshot(uint64(i), old...)}
		if i == 0 {
			list = list[:2]
		}
		holds(t, d, list...)
		tells(t, v, i, len(framed(one(c))), leases...)
		opened(t, d, i, len(framed(one(c))), leases...)
		want(t, "Compact", v.Compact(), api.OK)
		tells(t, v, i+1, 0, leases...)
	}
}

// A generation is one more than that which was found.
func TestCompactOfGenerations(t *testing.T) {
	for _, generation := range []int{1, 9, 99, 255, 1<<32 - 1, 1<<40 - 2, 1<<40 - 1} {
		d := having(t, "snap", snapshot(uint64(generation), several()...))
		v := opened(t, d, generation, 0, several()...)
		commit(t, v, takeOut(several()[0]))
		want(t, "Compact", v.Compact(), api.OK)
		holds(t, d, "snap", snapshot(uint64(generation+1), several()[1:]...))
		opened(t, d, generation+1, 0, several()[1:]...)
	}
}

// A file new that stands there is deleted, so that nothing is appended to it.
func TestCompactDeletesNew(t *testing.T) {
	five := four(5, "a", 10)
	for _, data := range []string{"", "x", snapshot(1, four(6, "b", 9)), snapshot(9)} {
		d := files.New()
		v := opened(t, d, 0, 0)
		commit(t, v, putIn(five))
		write(t, d, "new", data)
		crowd(t, d)
		steps := d.Steps()
		want(t, "Compact", v.Compact(), api.OK)
		got, err := d.Read("snap")
		if got != snapshot(1, five) || err != api.OK || d.Steps() != steps+6 || slices.Contains(d.Names(), "new") {
			t.Fatalf("behind %q the snapshot is %x, of %d operations", data, got, d.Steps()-steps)
		}
	}
}

// The operations of a Compact, in their order: the power goes at each of them.
func TestThePowerGoesInCompact(t *testing.T) {
	leases := many(65)
	log, snap := framed(one(putAll(leases...)...)), snapshot(1, leases...)
	head, most := len(framed(first(1))), len(snapshot(1, leases[:64]...))
	for n, row := range []struct {
		list       []string
		generation int
		size       int
	}{
		{[]string{"log-0", log, "new", "old"}, 0, len(log)},
		{[]string{"log-0", log, "new", snap[:head]}, 0, len(log)},
		{[]string{"log-0", log, "new", snap[:most]}, 0, len(log)},
		{[]string{"log-0", log, "new", snap}, 0, len(log)},
		{[]string{"log-0", log, "new", snap}, 0, len(log)},
		{[]string{"log-0", log, "new", snap}, 0, len(log)},
		{[]string{"log-0", log, "snap", snap}, 1, 0},
	} {
		d := files.New()
		v := opened(t, d, 0, 0)
		commit(t, v, putAll(leases...)...)
		write(t, d, "new", "old")
		// Whatever isn't safe is kept: as many bytes as there are, modulo one more.
		d.Arm(n, []int{0, head, most, len(snap), len(snap), 0, 0}[n])
		want(t, "Compact", v.Compact(), api.ErrDown)
		tells(t, v, row.generation, row.size, leases...)
		d.On()
		holds(t, d, row.list...)
		isEnded(t, d, v)
		opened(t, d, row.generation, row.size, leases...)
	}
}

// Ended.

// isEnded fails unless a vault whose disk is up is ended.
func isEnded(t *testing.T, d *files.Disk, v *Vault) {
	t.Helper()
	leases, generation, size := v.Table().All(), v.Generation(), v.Size()
	for range 2 {
		for _, list := range [][]api.Change{nil, {{}}, putAll(four(77, "e", 1)), slices.Repeat(putAll(four(77, "e", 1)), 2049), {takeOut(four(78, "", 0))}} {
			still(t, d, "Commit", func() api.Errno { return v.Commit(list) }, api.ErrDown)
		}
		still(t, d, "Compact", v.Compact, api.ErrDown)
		tells(t, v, generation, size, leases...)
		if !v.Ended() {
			t.Fatal("the vault isn't ended")
		}
	}
}

func TestEnded(t *testing.T) {
	five, six := four(5, "a", 10), four(6, "b", 9)
	off := func(call func(v *Vault) api.Errno) func(*files.Disk, *Vault) api.Errno {
		return func(d *files.Disk, v *Vault) api.Errno {
			d.Off(0)
			return call(v)
		}
	}
	armed := func(n int, call func(v *Vault) api.Errno) func(*files.Disk, *Vault) api.Errno {
		return func(d *files.Disk, v *Vault) api.Errno {
			d.Arm(n, 0)
			return call(v)
		}
	}
	put := func(v *Vault) api.Errno { return v.Commit(putAll(six)) }
	log := len(framed(one(putIn(five))))
	for what, row := range map[string]struct {
		call func(*files.Disk, *Vault) api.Errno
		size int
	}{
		"a Commit of a down disk":            {off(put), log},
		"a Commit of nothing of a down disk": {off(func(v *Vault) api.Errno { return v.Commit(nil) }), log},
		"a wrong Commit of a down disk":      {off(func(v *Vault) api.Errno { return v.Commit(make([]api.Change, 3000)) }), log},
		"a Compact of a down disk":           {off((*Vault).Compact), log},
		"a Commit's append":                  {armed(0, put), log},
		"a Commit's sync":                    {armed(1, put), 2 * log},
		"a Compact":                          {armed(2, (*Vault).Compact), log},
	} {
		t.Log(what)
		d := files.New()
		v := opened(t, d, 0, 0)
		commit(t, v, putIn(five))
		want(t, what, row.call(d, v), api.ErrDown)
		tells(t, v, 0, row.size, five)
		d.On()
		isEnded(t, d, v)
		opened(t, d, 0, log, five)
	}
}

// A vault is ended by calls of its own; one whose disk was down between them goes on.
func TestNotEnded(t *testing.T) {
	five, six := four(5, "a", 10), four(6, "b", 9)
	d := files.New()
	v := opened(t, d, 0, 0)
	commit(t, v, putIn(five))
	for range 3 {
		d.Off(0)
		tells(t, v, 0, len(framed(one(putIn(five)))), five)
		if v.Ended() {
			t.Fatal("the vault is ended")
		}
		d.On()
	}
	commit(t, v, putIn(six))
	d.Off(9)
	d.On()
	want(t, "Compact", v.Compact(), api.OK)
	d.Off(9)
	d.On()
	opened(t, d, 1, 0, five, six)
}

// P10.4

func TestTableIsACopy(t *testing.T) {
	five, six := four(5, "a", 10), four(6, "b", 9)
	d := files.New()
	v := opened(t, d, 0, 0)
	commit(t, v, putIn(five))
	before := v.Table()
	other := v.Table()
	want(t, "Apply", other.Apply([]api.Change{takeOut(five), putIn(six)}), api.OK)
	equal(t, before, five)
	tells(t, v, 0, len(framed(one(putIn(five)))), five)
	commit(t, v, putIn(four(7, "b", 1)))
	equal(t, before, five)
	equal(t, other, six)
	want(t, "Compact", v.Compact(), api.OK)
	holds(t, d, "snap", snapshot(1, five, four(7, "b", 1)))
}

func TestNilVault(t *testing.T) {
	var v *Vault
	for _, list := range [][]api.Change{nil, {{}}, putAll(four(5, "a", 10)), make([]api.Change, 3000)} {
		want(t, "Commit", v.Commit(list), api.ErrNil)
	}
	want(t, "Compact", v.Compact(), api.ErrNil)
	if v.Table() != (*table.Table)(nil) || v.Generation() != 0 || v.Size() != 0 || v.Ended() {
		t.Error("a nil vault tells something")
	}
}

// P10.6

func TestWhatIsHandedInStays(t *testing.T) {
	five, six := four(5, "a", 10), four(6, "b", 9)
	for _, last := range []api.Change{putIn(six), takeOut(six), {}} {
		list := append(putAll(five, four(7, "c", 1)), last)
		room := append(slices.Clone(list), putAll(many(5)...)...)
		kept := slices.Clone(room)
		d := files.New()
		v := opened(t, d, 0, 0)
		err := v.Commit(room[:len(list)])
		if !slices.Equal(room, kept) {
			t.Fatalf("behind %d the list is %v, not %v", err, room, kept)
		}
		// It isn't kept either.
		clear(room)
		if err != api.OK {
			tells(t, v, 0, 0)
			continue
		}
		tells(t, v, 0, len(framed(one(list...))), plain(nil).after(list...)...)
		want(t, "Compact", v.Compact(), api.OK)
		holds(t, d, "snap", snapshot(1, plain(nil).after(list...)...))
	}
}

// Vaults of two disks have nothing in common.
func TestVaultsAreApart(t *testing.T) {
	five, six := four(5, "a", 10), four(6, "b", 9)
	d, far := files.New(), files.New()
	v, other := opened(t, d, 0, 0), opened(t, far, 0, 0)
	commit(t, v, putIn(five))
	tells(t, other, 0, 0)
	commit(t, other, putIn(six))
	want(t, "Compact", other.Compact(), api.OK)
	far.Off(0)
	want(t, "Compact", other.Compact(), api.ErrDown)
	commit(t, v, takeOut(five))
	tells(t, v, 0, len(framed(one(putIn(five)), one(takeOut(five)))))
	tells(t, other, 1, 0, six)
	holds(t, d, "log-0", framed(one(putIn(five)), one(takeOut(five))))
	if v.Ended() {
		t.Error("the vault of another disk is ended")
	}
}
