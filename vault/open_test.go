package vault

import (
	"fmt"
	"slices"
	"testing"

	"tenancy/api"
	"tenancy/files"
)

// P10.1

func TestOpenOfNoDisk(t *testing.T) {
	refused(t, nil, api.ErrNil)
	for _, data := range []string{snapshot(1), "no snapshot"} {
		d := having(t, "log-0", "no log", "new", "x", "snap", data)
		d.Off(0)
		for range 2 {
			refused(t, d, api.ErrDown)
		}
		d.On()
		holds(t, d, "log-0", "no log", "new", "x", "snap", data)
	}
}

func TestOpenOfNewDisk(t *testing.T) {
	d := files.New()
	still(t, d, "Open", func() api.Errno {
		opened(t, d, 0, 0)
		return api.OK
	}, api.OK)
}

// Snapshots as a Compact writes them, of the generations that one can have.
func TestOpenOfSnapshots(t *testing.T) {
	more := putIn(four(4, "z", 1))
	for _, generation := range []int{1, 2, 9, 10, 255, 256, 1 << 32, 1<<40 - 1, 1 << 40} {
		for _, leases := range [][]api.Lease{nil, several(), many(1), many(63), many(64), many(65), many(128), many(1023)} {
			data := snapshot(uint64(generation), leases...)
			d := having(t, "snap", data)
			var v *Vault
			still(t, d, "Open", func() api.Errno {
				v = opened(t, d, generation, 0, leases...)
				return api.OK
			}, api.OK)
			commit(t, v, more)
			log := framed(one(more))
			holds(t, d, fmt.Sprint("log-", generation), log, "snap", data)
			opened(t, d, generation, len(log), plain(leases).after(more)...)
		}
	}
	opened(t, having(t, "snap", snapshot(1, many(1024)...)), 1, 0, many(1024)...)
}

// It is asked of a snapshot that it can be read and made, not that a Compact
// would have written it so.
func TestOpenOfOtherSnapshots(t *testing.T) {
	five, six := four(5, "a", 10), four(6, "b", 9)
	for i, row := range []struct {
		records []string
		leases  []api.Lease
	}{
		{[]string{one()}, nil},
		{[]string{one(), one(putIn(five)), one()}, []api.Lease{five}},
		{[]string{one(putIn(six)), one(putIn(five))}, []api.Lease{five, six}},
		{[]string{one(putIn(six), putIn(five)), one(takeOut(six))}, []api.Lease{five}},
		{[]string{one(putIn(five)), one(putIn(four(5, "b", 3)))}, []api.Lease{four(5, "b", 3)}},
		{[]string{one(putIn(five), takeOut(five), putIn(four(6, "a", 1)))}, []api.Lease{four(6, "a", 1)}},
		{[]string{one(putAll(many(300)...)...)}, many(300)},
		{[]string{one(slices.Repeat([]api.Change{putIn(five), takeOut(five)}, 1024)...)}, nil},
		{[]string{one(putAll(several()[3:]...)...), one(putAll(several()[:3]...)...)}, several()},
	} {
		t.Log("row", i)
		more := putIn(four(4, "z", 1))
		log := framed(one(more))
		d := having(t, "log-7", log, "snap", framed(append([]string{first(7)}, row.records...)...))
		opened(t, d, 7, len(log), plain(row.leases).after(more)...)
	}
}

// wrongHeads are the bytes of files whose first record isn't a snapshot's.
func wrongHeads() map[string]string {
	five := four(5, "a", 10)
	return map[string]string{
		"nothing":                     "",
		"no frames":                   "tenancy",
		"no frame":                    first(3),
		"no first record":             framed(one(putIn(five))),
		"the first record at the end": framed(one(putIn(five)), first(3)),
		"the generation 0":            snapshot(0, five),
		"the generation 2^40 + 1":     snapshot(1<<40+1, five),
		"the generation 2^63":         snapshot(1<<63, five),
		"the generation 2^63 + 1":     snapshot(1<<63+1, five),
		"the generation 2^64 - 1":     snapshot(ones, five),
		"a generation of 7 bytes":     framed(first(3)[:14]),
		"a generation of 9 bytes":     framed(first(3) + "\x00"),
		"the lowest byte first":       framed("tenancy\x03\x00\x00\x00\x00\x00\x00\x00"),
		"no generation":               framed("tenancy"),
		"no word":                     framed(first(3)[7:]),
		"a great letter":              framed("T" + first(3)[1:]),
		"another word":                framed("tenancx" + first(3)[7:]),
		"a longer word":               framed("tenancys" + first(3)[7:]),
		"another word ahead":          framed("a" + first(3)),
	}
}

// wrongTails are bytes that make a snapshot of one lease, that of five of a, a
// wrong one, where they stand behind it.
func wrongTails() map[string]string {
	five := four(5, "a", 10)
	again := slices.Repeat([]api.Change{takeOut(five), putIn(five)}, 1025)
	return map[string]string{
		"a second first record":     framed(first(3)),
		"half a number":             framed("\x00"),
		"bytes behind the changes":  framed(one() + "x"),
		"a change that is cut":      framed(one(putIn(four(6, "b", 9)))[:36]),
		"a change that is none":     framed(one(putIn(four(6, "", 9)))),
		"2049 changes":              framed(one(again[:2049]...)),
		"one gone that isn't there": framed(one(takeOut(four(6, "b", 9)))),
		"one gone twice":            framed(one(takeOut(five)), one(takeOut(five))),
		"an owner with two":         framed(one(putIn(four(6, "a", 9)))),
		"an address in a prefix":    framed(one(putIn(bound(api.NonT, host(5), "a", 0, 1)), putIn(bound(api.Deleg, prefix(0, 0, 1), "a", 0, 1)))),
		"1025 leases":               framed(one(putAll(many(1000)...)...), one(putAll(many(1024)[1000:]...)...)),
		"a byte":                    "\x00",
		"an empty frame":            framed(""),
		"a torn frame":              framed(one())[:9],
		"a right frame behind none": "\x00" + framed(one()),
	}
}

// wrongSnapshots are bytes that are no right snapshot.
func wrongSnapshots() map[string]string {
	list := wrongHeads()
	right := snapshot(3, four(5, "a", 10))
	for what, tail := range wrongTails() {
		list[what] = right + tail
	}
	for end := range right {
		// The first record alone is a snapshot of no leases.
		if end != len(snapshot(3)) {
			list[fmt.Sprint("the first bytes, ", end)] = right[:end]
		}
	}
	for at := range right {
		changed := []byte(right)
		changed[at] ^= 0x10
		list[fmt.Sprint("another byte at ", at)] = string(changed)
	}
	return list
}

// A wrong snapshot is told ahead of all else: nothing is deleted or cut.
func TestOpenOfWrongSnapshots(t *testing.T) {
	for what, data := range wrongSnapshots() {
		t.Log(what)
		d := having(t, "log-0", "torn", "log-3", "torn", "new", snapshot(1), "snap", data)
		still(t, d, "Open", func() api.Errno {
			refused(t, d, api.ErrVault)
			return api.OK
		}, api.OK)
	}
}

// Bytes that aren't safe are as right as others, and aren't made safe.
func TestOpenOfWhatIsNotSafe(t *testing.T) {
	five := four(5, "a", 10)
	d := files.New()
	log := framed(one(takeOut(five)))
	want(t, "the disk's Append", d.Append("snap", snapshot(1, five)), api.OK)
	want(t, "the disk's Append", d.Append("log-1", log), api.OK)
	still(t, d, "Open", func() api.Errno {
		opened(t, d, 1, len(log))
		return api.OK
	}, api.OK)
}

// What isn't wanted any more goes in the order of the names; the power goes at
// each of them.
func TestOpenSweepsInOrder(t *testing.T) {
	swept := []string{"log-", "log--1", "log-00", "log-01", "log-2", "log-20", "log-x", "new"}
	for _, generation := range []int{0, 1, 10} {
		kept := []string{fmt.Sprint("log-", generation)}
		if generation > 0 {
			kept = append(kept, "snap")
		}
		for n := range len(swept) + 1 {
			d := files.New()
			for _, name := range slices.Concat(swept[4:], swept[:4], kept[:1]) {
				write(t, d, name, framed(one()))
			}
			if generation > 0 {
				write(t, d, "snap", snapshot(uint64(generation)))
			}
			steps := d.Steps()
			d.Arm(n, 0)
			if n < len(swept) {
				refused(t, d, api.ErrDown)
				d.On()
			} else {
				opened(t, d, generation, len(framed(one())))
			}
			left := slices.Sorted(slices.Values(slices.Concat(kept, swept[n:])))
			if got := d.Names(); !slices.Equal(got, left) || d.Steps() != steps+n {
				t.Fatalf("behind %d operations there are %q, not %q", d.Steps()-steps, got, left)
			}
		}
	}
}

// Of the logs of all generations one is the vault's.
func TestOpenSweepsLogs(t *testing.T) {
	generations := []int{0, 1, 2, 9, 10, 11, 99, 100, 1 << 40}
	for i, generation := range generations {
		var list []string
		if i > 0 {
			list = append(list, "snap", snapshot(uint64(generation)))
		}
		five := four(5, "a", 10)
		log := []string{fmt.Sprint("log-", generation), framed(one(putIn(five)))}
		d := having(t, append(list, log...)...)
		for _, other := range slices.Delete(slices.Clone(generations), i, i+1) {
			write(t, d, fmt.Sprint("log-", other), "no log")
		}
		opened(t, d, generation, len(log[1]), five)
		holds(t, d, append(log, list...)...)
	}
}

// Files of other names stay, whatever they hold.
func TestOtherFilesStay(t *testing.T) {
	five := four(5, "a", 10)
	ahead := []string{"-log-1", "x", "a", framed("x"), "log", "torn", "log.1", "x", "nev", "x", "new-", "x", "new.log-0", "x", "sna", "x"}
	behind := []string{"snap-1", "x", "snap.log-0", "x", "snapnew", "x", "zlog-0", "x"}
	d := having(t, slices.Concat(behind, ahead)...)
	v := opened(t, d, 0, 0)
	holds(t, d, slices.Concat(ahead, behind)...)
	commit(t, v, putIn(five))
	want(t, "Compact", v.Compact(), api.OK)
	opened(t, d, 1, 0, five)
	holds(t, d, slices.Concat(ahead, []string{"snap", snapshot(1, five)}, behind)...)
}

func TestOpenOfLogs(t *testing.T) {
	five, six, renewed := four(5, "a", 10), four(6, "b", 9), four(5, "a", 99)
	more := putIn(four(4, "z", 1))
	for _, row := range []struct {
		records []string
		leases  []api.Lease
	}{
		{nil, []api.Lease{five}},
		{[]string{one()}, []api.Lease{five}},
		{[]string{one(putIn(six))}, []api.Lease{five, six}},
		{[]string{one(putIn(six)), one(takeOut(five), putIn(renewed)), one(takeOut(six))}, []api.Lease{renewed}},
		{[]string{one(takeOut(five)), one(putIn(five)), one(takeOut(five))}, nil},
		{[]string{one(putAll(several()[1:]...)...)}, several()},
		{[]string{one(takeOut(five)), one(putAll(many(1000)...)...), one(putAll(many(1023)[1000:]...)...)}, many(1023)},
	} {
		log := framed(row.records...)
		for _, tail := range []string{"", "t", "\x00\x00\x00\x00", framed(""), framed(one())[:9], "x" + framed("x")} {
			d := having(t, "log-1", log+tail, "snap", snapshot(1, five))
			v := opened(t, d, 1, len(log), row.leases...)
			holds(t, d, "log-1", log, "snap", snapshot(1, five))
			commit(t, v, more)
			opened(t, d, 1, len(log+framed(one(more))), plain(row.leases).after(more)...)
		}
	}
}

// wrongLogs are the records of logs that can't be read, or made of one lease,
// that of five of a.
func wrongLogs() map[string][]string {
	five := four(5, "a", 10)
	six := putIn(four(6, "b", 9))
	return map[string][]string{
		"half a number":             {"x"},
		"bytes behind the changes":  {one() + "x"},
		"a change that is none":     {one(putIn(four(6, "", 9)))},
		"a change of no way":        {"\x00\x01\x03" + one(takeOut(five))[3:]},
		"one gone that isn't there": {one(takeOut(four(6, "b", 9)))},
		"one gone twice":            {one(takeOut(five), takeOut(five))},
		"an owner with two":         {one(putIn(four(6, "a", 9)))},
		"an address in a prefix":    {one(putIn(bound(api.NonT, host(5), "a", 0, 9))), one(putIn(bound(api.Deleg, prefix(0, 0, 1), "a", 0, 9)))},
		"1025 leases":               {one(putAll(many(1000)...)...), one(putAll(many(1024)[1000:]...)...)},
		"wrong behind right":        {one(six), one(takeOut(five)), one(takeOut(five))},
		"right behind wrong":        {"x", one(takeOut(five))},
		"a snapshot":                {first(1), one(six)},
	}
}

// A wrong log is told behind all else: the other logs are deleted by then, and
// what was torn is cut away.
func TestOpenOfWrongLogs(t *testing.T) {
	for what, records := range wrongLogs() {
		t.Log(what)
		log, snap := framed(records...), snapshot(1, four(5, "a", 10))
		d := having(t, "log-0", "x", "log-1", log+"torn", "new", "x", "snap", snap)
		d.Arm(1, 0)
		refused(t, d, api.ErrDown)
		d.On()
		holds(t, d, "log-1", log+"torn", "new", "x", "snap", snap)
		d.Arm(1, 0)
		refused(t, d, api.ErrDown)
		d.On()
		holds(t, d, "log-1", log+"torn", "snap", snap)
		d.Arm(1, 0)
		for range 3 {
			refused(t, d, api.ErrVault)
			holds(t, d, "log-1", log, "snap", snap)
		}
	}
}
