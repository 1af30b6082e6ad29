package vault

import (
	"encoding/binary"
	"fmt"
	"hash/crc32"
	"math"
	"slices"
	"sort"
	"strings"
	"testing"

	"tenancy/api"
	"tenancy/files"
	"tenancy/table"
)

const ones = math.MaxUint64

// prefix is a prefix by its numbers, or none.
func prefix(hi uint64, lo uint64, bits int) api.Prefix {
	return api.Prefix{Addr: api.Addr{Hi: hi, Lo: lo}, Bits: bits}
}

// host is an address of DHCPv4, by its number.
func host(n uint64) api.Prefix { return prefix(0, n, 128) }

// db8 is a prefix in 2001:db8::/32, by what stands in its words beside that.
func db8(hi uint64, lo uint64, bits int) api.Prefix {
	return prefix(0x20010db800000000|hi, lo, bits)
}

// bound is a lease of a client; declined one that nobody has.
func bound(kind int, what api.Prefix, client string, iaid uint32, until int) api.Lease {
	return api.Lease{Kind: kind, What: what, State: api.Bound, Client: client, Iaid: iaid, Until: until}
}

func declined(kind int, what api.Prefix, until int) api.Lease {
	return api.Lease{Kind: kind, What: what, State: api.Declined, Until: until}
}

// four is a lease of an address of DHCPv4.
func four(n uint64, client string, until int) api.Lease {
	return bound(api.Host, host(n), client, 0, until)
}

// many are leases of addresses of DHCPv4, each of a client of its own, in their order.
func many(n int) []api.Lease {
	var list []api.Lease
	for i := range n {
		list = append(list, four(uint64(1000+i), fmt.Sprint("client ", i), i))
	}
	return list
}

// several are leases of all kinds, with the edges of what they may be, in their order.
func several() []api.Lease {
	long := strings.Repeat("\xfe", 130)
	return []api.Lease{
		four(5, "a", 10),
		declined(api.Host, host(6), 0),
		four(1<<32-1, long, 1<<40),
		bound(api.NonT, db8(0, 5, 128), "a", 0, 10),
		bound(api.NonT, db8(0, 6, 128), "a", math.MaxUint32, 1<<40-1),
		declined(api.Temp, db8(0, 7, 128), 1<<40),
		bound(api.Temp, db8(0, 8, 128), "\x00", 1, 3),
		bound(api.Deleg, db8(0x100, 0, 56), long[1:], 1<<31, 0),
		bound(api.Deleg, prefix(1<<63, 0, 1), "tenancy", 0x01020304, 0x0102030405),
	}
}

// takeOut is the change that takes a lease out; putIn the one that puts it.
func takeOut(l api.Lease) api.Change {
	return api.Change{Gone: true, Lease: api.Lease{Kind: l.Kind, What: l.What}}
}

func putIn(l api.Lease) api.Change { return api.Change{Lease: l} }

func putAll(list ...api.Lease) []api.Change {
	var changes []api.Change
	for _, l := range list {
		changes = append(changes, putIn(l))
	}
	return changes
}

// one is the record of these changes, whether they are any or not, as the chapters
// tell its bytes.
func one(changes ...api.Change) string {
	big := binary.BigEndian
	list := big.AppendUint16(nil, uint16(len(changes)))
	for _, c := range changes {
		l, way := c.Lease, byte(1)
		if c.Gone {
			way = 2
		}
		list = append(list, way, byte(l.Kind), byte(l.What.Bits))
		list = big.AppendUint64(list, l.What.Addr.Hi)
		list = big.AppendUint64(list, l.What.Addr.Lo)
		if c.Gone {
			continue
		}
		list = append(list, byte(l.State))
		list = big.AppendUint32(list, l.Iaid)
		list = big.AppendUint64(list, uint64(l.Until))
		list = big.AppendUint16(list, uint16(len(l.Client)))
		list = append(list, l.Client...)
	}
	return string(list)
}

// framed is the frames of records.
func framed(records ...string) string {
	var list []byte
	for _, record := range records {
		list = binary.BigEndian.AppendUint32(list, uint32(len(record)))
		list = binary.BigEndian.AppendUint32(list, crc32.ChecksumIEEE([]byte(record)))
		list = append(list, record...)
	}
	return string(list)
}

// first is a snapshot's first record.
func first(generation uint64) string {
	return "tenancy" + string(binary.BigEndian.AppendUint64(nil, generation))
}

// snapshot is a snapshot's bytes of leases that stand in their order.
func snapshot(generation uint64, leases ...api.Lease) string {
	records := []string{first(generation)}
	for len(leases) > 64 {
		records = append(records, one(putAll(leases[:64]...)...))
		leases = leases[64:]
	}
	if len(leases) > 0 {
		records = append(records, one(putAll(leases...)...))
	}
	return framed(records...)
}

// plain is leases in their order, to hold a vault's against; its changes are such
// as can be made.
type plain []api.Lease

func sameKey(a api.Lease, b api.Lease) bool { return a.Kind == b.Kind && a.What == b.What }

// after is the leases behind these changes too.
func (p plain) after(changes ...api.Change) plain {
	list := slices.Clone(p)
	for _, c := range changes {
		list = slices.DeleteFunc(list, func(l api.Lease) bool { return sameKey(l, c.Lease) })
		if !c.Gone {
			list = append(list, c.Lease)
		}
	}
	sort.Slice(list, func(i, j int) bool {
		a, b := list[i], list[j]
		p, q := a.What, b.What
		switch {
		case a.Kind != b.Kind:
			return a.Kind < b.Kind
		case p.Addr.Hi != q.Addr.Hi:
			return p.Addr.Hi < q.Addr.Hi
		case p.Addr.Lo != q.Addr.Lo:
			return p.Addr.Lo < q.Addr.Lo
		}
		return p.Bits < q.Bits
	})
	return list
}

// want fails unless a call answered just this.
func want(t *testing.T, what string, got api.Errno, wanted api.Errno) {
	t.Helper()
	if got != wanted {
		t.Fatalf("%s answers %d, not %d", what, got, wanted)
	}
}

// write makes a file of bytes that are safe.
func write(t *testing.T, d *files.Disk, name string, data string) {
	t.Helper()
	want(t, "the disk's Append", d.Append(name, data), api.OK)
	want(t, "the disk's Sync", d.Sync(name), api.OK)
}

// having is a disk with files: a name, and its bytes behind it.
func having(t *testing.T, list ...string) *files.Disk {
	t.Helper()
	d := files.New()
	for i := 0; i < len(list); i += 2 {
		write(t, d, list[i], list[i+1])
	}
	return d
}

// holds fails unless a disk that is up has just these files, all of them safe: a
// name, and its bytes behind it; the names rise.
func holds(t *testing.T, d *files.Disk, list ...string) {
	t.Helper()
	var names []string
	for i := 0; i < len(list); i += 2 {
		names = append(names, list[i])
	}
	if got := d.Names(); !slices.Equal(got, names) {
		t.Fatalf("the files are %q, not %q", got, names)
	}
	for i, name := range names {
		data := list[2*i+1]
		got, err := d.Read(name)
		if err != api.OK || got != data || d.Safe(name) != len(data) {
			t.Fatalf("%s has %d bytes, %d of them safe, error %d: %x; not %d: %x", name, len(got), d.Safe(name), err, got, len(data), data)
		}
	}
}

// shape is all that can be told of a disk, but for how it is armed.
func shape(d *files.Disk) string {
	list := []string{fmt.Sprint(d.Down(), d.Steps())}
	for _, name := range d.Names() {
		data, err := d.Read(name)
		list = append(list, fmt.Sprintf("%q %q %d %d", name, data, d.Safe(name), err))
	}
	return strings.Join(list, "\n")
}

// still fails unless a call answers so and does no operation. At one the power
// would go.
func still(t *testing.T, d *files.Disk, what string, call func() api.Errno, err api.Errno) {
	t.Helper()
	before := shape(d)
	d.Arm(0, 0)
	want(t, what, call(), err)
	d.Arm(-1, 0)
	if shape(d) != before {
		t.Fatalf("%s changes the disk", what)
	}
}

// opened is the vault of a disk, with such a generation and log, and these leases.
func opened(t *testing.T, d *files.Disk, generation int, size int, leases ...api.Lease) *Vault {
	t.Helper()
	v, err := Open(d)
	want(t, "Open", err, api.OK)
	tells(t, v, generation, size, leases...)
	if v.Ended() {
		t.Fatal("a vault that was opened is ended")
	}
	return v
}

// refused fails unless Open answers an error and no vault.
func refused(t *testing.T, d *files.Disk, err api.Errno) {
	t.Helper()
	v, got := Open(d)
	if v != nil || got != err {
		t.Fatalf("Open answers %v, %d, not %d", v, got, err)
	}
}

// tells fails unless a vault tells just this.
func tells(t *testing.T, v *Vault, generation int, size int, leases ...api.Lease) {
	t.Helper()
	equal(t, v.Table(), leases...)
	if v.Generation() != generation || v.Size() != size {
		t.Fatalf("the generation is %d, the log has %d bytes; not %d and %d", v.Generation(), v.Size(), generation, size)
	}
}

// equal fails unless a table has just these leases, in their order.
func equal(t *testing.T, got *table.Table, leases ...api.Lease) {
	t.Helper()
	if got == nil || !slices.Equal(got.All(), leases) {
		t.Fatalf("the leases are %x, not %x", got.All(), leases)
	}
}

// commit fails unless a vault commits these changes.
func commit(t *testing.T, v *Vault, changes ...api.Change) {
	t.Helper()
	want(t, "Commit", v.Commit(changes), api.OK)
}
