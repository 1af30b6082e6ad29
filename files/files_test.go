package files

import (
	"fmt"
	"math"
	"math/rand"
	"slices"
	"strings"
	"testing"

	"tenancy/api"
)

func chance() *rand.Rand { return rand.New(rand.NewSource(6)) }

// rising is n bytes, no two neighbours of which are the same.
func rising(n int) string {
	list := make([]byte, n)
	for i := range list {
		list[i] = byte(i%251 + 1)
	}
	return string(list)
}

// want fails unless a call answered just this.
func want(t *testing.T, what string, got api.Errno, wanted api.Errno) {
	t.Helper()
	if got != wanted {
		t.Fatalf("%s answers %d, not %d", what, got, wanted)
	}
}

// put appends bytes that are safe, and behind them others that aren't.
func put(t *testing.T, d *Disk, name string, safe string, loose string) {
	t.Helper()
	want(t, "Append", d.Append(name, safe), api.OK)
	want(t, "Sync", d.Sync(name), api.OK)
	want(t, "Append", d.Append(name, loose), api.OK)
}

// holds fails unless a disk that is up has just this file of this name.
func holds(t *testing.T, d *Disk, name string, data string, safe int) {
	t.Helper()
	got, err := d.Read(name)
	if err != api.OK || got != data || d.Safe(name) != safe {
		t.Fatalf("%s has %d bytes, %d of them safe, error %d; not %d bytes, %d safe", name, len(got), d.Safe(name), err, len(data), safe)
	}
}

// gone fails unless a disk that is up has no file of this name.
func gone(t *testing.T, d *Disk, name string) {
	t.Helper()
	got, err := d.Read(name)
	if err != api.ErrNone || got != "" || d.Safe(name) != 0 || slices.Contains(d.Names(), name) {
		t.Fatalf("%s is there: %q, %d, error %d", name, got, d.Safe(name), err)
	}
}

// called fails unless the files of a disk have just these names.
func called(t *testing.T, d *Disk, names ...string) {
	t.Helper()
	if got := d.Names(); !slices.Equal(got, names) {
		t.Fatalf("the names are %q, not %q", got, names)
	}
}

// fill gives a disk all the files that it may have, f0 to f15.
func fill(t *testing.T, d *Disk) {
	t.Helper()
	for i := range api.MaxFiles {
		want(t, "Append", d.Append(fmt.Sprintf("f%d", i), "x"), api.OK)
	}
}

// shape is all that can be told of a disk that is up, but for how it is armed.
func shape(d *Disk) string {
	list := []string{fmt.Sprint(d.Down(), d.Steps())}
	for _, name := range d.Names() {
		data, err := d.Read(name)
		list = append(list, fmt.Sprintf("%q %q %d %d", name, data, d.Safe(name), err))
	}
	return strings.Join(list, "\n")
}

// wrong are texts that are no names.
func wrong() []string {
	list := []string{"", strings.Repeat("a", api.MaxName+1), strings.Repeat("a", 1<<20), "Log", "lOg", "loG", "log ", " log", "a/b", "a_b", "é", "\x00", "a\x00", "\xffa", "log\n"}
	for c := range 256 {
		if !strings.Contains("abcdefghijklmnopqrstuvwxyz0123456789.-", string([]byte{byte(c)})) {
			b := string([]byte{byte(c)})
			list = append(list, b, b+"a", "a"+b, "a"+b+"a", strings.Repeat("a", api.MaxName-1)+b)
		}
	}
	return list
}

// right are names, the shortest and the longest ones too.
func right() []string {
	list := []string{".", "-", "..", "--", "new", "snap", "log-0", "0.9-z"}
	for _, c := range "abcdefghijklmnopqrstuvwxyz0123456789.-" {
		list = append(list, string(c), "a"+string(c), strings.Repeat(string(c), api.MaxName-1), strings.Repeat(string(c), api.MaxName))
	}
	return list
}

// deed is an operation as a test hands it about.
type deed struct {
	what string
	do   func(d *Disk) api.Errno
}

// deeds are the operations, of a file and of another name.
func deeds(name string, other string) []deed {
	return []deed{
		{"Append", func(d *Disk) api.Errno { return d.Append(name, "xyz") }},
		{"Append of nothing", func(d *Disk) api.Errno { return d.Append(name, "") }},
		{"Sync", func(d *Disk) api.Errno { return d.Sync(name) }},
		{"Cut to 1", func(d *Disk) api.Errno { return d.Cut(name, 1) }},
		{"Cut to 0", func(d *Disk) api.Errno { return d.Cut(name, 0) }},
		{"Rename", func(d *Disk) api.Errno { return d.Rename(name, other) }},
		{"Rename to itself", func(d *Disk) api.Errno { return d.Rename(name, name) }},
		{"Delete", func(d *Disk) api.Errno { return d.Delete(name) }},
	}
}

// faulty are operations with a name that could be refused for something else too.
func faulty(name string) []deed {
	return append(deeds(name, "b"),
		deed{"Append of too much", func(d *Disk) api.Errno { return d.Append(name, strings.Repeat("a", api.MaxFile+1)) }},
		deed{"Cut to -1", func(d *Disk) api.Errno { return d.Cut(name, -1) }},
		deed{"Rename from none", func(d *Disk) api.Errno { return d.Rename("none", name) }},
		deed{"Rename from log", func(d *Disk) api.Errno { return d.Rename("log", name) }},
		deed{"Rename from no name", func(d *Disk) api.Errno { return d.Rename("", name) }},
	)
}

// inOrder are operations none of which is refused, one behind the other, again
// and again.
func inOrder() []deed {
	back := deed{"Rename back", func(d *Disk) api.Errno { return d.Rename("b", "log") }}
	return slices.Insert(deeds("log", "b"), 6, back)
}

// The chapter's examples.

func TestExamples(t *testing.T) {
	for _, c := range []struct {
		keep int
		data string
	}{{1, "abcd"}, {-1, "abc"}, {5, "abcde"}} {
		d := New()
		put(t, d, "log", "abc", "de")
		holds(t, d, "log", "abcde", 3)
		d.Off(c.keep)
		_, err := d.Read("log")
		want(t, "Read", err, api.ErrDown)
		d.On()
		holds(t, d, "log", c.data, len(c.data))
	}
	d := New()
	put(t, d, "log", "abcd", "")
	d.Arm(0, 1)
	want(t, "Append", d.Append("log", "xyz"), api.ErrDown)
	d.On()
	holds(t, d, "log", "abcdx", 5)
	d.Arm(0, 0)
	want(t, "Rename", d.Rename("log", "b"), api.ErrDown)
	d.On()
	called(t, d, "log")
	want(t, "Append", d.Append("Log", "a"), api.ErrName)
	want(t, "Append", d.Append("", "a"), api.ErrName)
	want(t, "Cut", d.Cut("log", 2), api.OK)
	holds(t, d, "log", "ab", 2)
	want(t, "Cut", d.Cut("log", 9), api.ErrArg)
	want(t, "Sync", d.Sync("none"), api.ErrNone)
}

// P6.1

func TestNew(t *testing.T) {
	d := New()
	if d == nil || d.Down() || d.Steps() != 0 || len(d.Names()) != 0 {
		t.Fatal("New isn't up, or has files or steps")
	}
	for i := range 100 {
		want(t, "Append", d.Append("log", "a"), api.OK)
		if d.Down() || d.Steps() != i+1 {
			t.Fatal("New is armed")
		}
	}
}

func TestRead(t *testing.T) {
	d := New()
	put(t, d, "log", "abc", "de")
	put(t, d, "empty", "", "")
	put(t, d, "zeros", "\x00\xff", "\x00\x80")
	for name, data := range map[string]string{"log": "abcde", "empty": "", "zeros": "\x00\xff\x00\x80"} {
		if got, err := d.Read(name); got != data || err != api.OK {
			t.Errorf("Read(%q) is %q, %d", name, got, err)
		}
	}
	for _, name := range []string{"none", "lo", "logg", "log-", "-log", "l.g", "0"} {
		if got, err := d.Read(name); got != "" || err != api.ErrNone {
			t.Errorf("Read(%q) is %q, %d", name, got, err)
		}
	}
	for _, name := range wrong() {
		if got, err := d.Read(name); got != "" || err != api.ErrName {
			t.Errorf("Read(%q) is %q, %d", name, got, err)
		}
	}
	d.Off(0)
	for _, name := range append(wrong(), "log", "empty", "none") {
		if got, err := d.Read(name); got != "" || err != api.ErrDown {
			t.Errorf("down, Read(%q) is %q, %d", name, got, err)
		}
	}
}

func TestRightNames(t *testing.T) {
	for _, name := range right() {
		d := New()
		put(t, d, name, "ab", "c")
		called(t, d, name)
		holds(t, d, name, "abc", 2)
		want(t, "Rename", d.Rename(name, "other.-9"), api.OK)
		want(t, "Rename", d.Rename("other.-9", name), api.OK)
		want(t, "Cut", d.Cut(name, 1), api.OK)
		holds(t, d, name, "a", 1)
		want(t, "Delete", d.Delete(name), api.OK)
		gone(t, d, name)
	}
}

// P6.2

func TestWrongNames(t *testing.T) {
	d := New()
	put(t, d, "log", "abc", "de")
	before := shape(d)
	for _, name := range wrong() {
		for _, one := range faulty(name) {
			want(t, one.what, one.do(d), api.ErrName)
		}
		if d.Safe(name) != 0 {
			t.Errorf("Safe(%q) isn't 0", name)
		}
	}
	if shape(d) != before {
		t.Error("a refused name changed the disk")
	}
}

// Of a disk that is down all errors but ErrDown come behind it.
func TestDownIsFirst(t *testing.T) {
	d := New()
	put(t, d, "log", "abc", "de")
	d.Off(1)
	for _, name := range []string{"log", "none", "Log", ""} {
		for _, one := range faulty(name) {
			want(t, one.what, one.do(d), api.ErrDown)
		}
	}
	called(t, d, "log")
	if d.Steps() != 3 || d.Safe("log") != 4 || !d.Down() {
		t.Error("a call changed a disk that is down")
	}
	d.On()
	holds(t, d, "log", "abcd", 4)
}

func TestAppend(t *testing.T) {
	d := New()
	for i, part := range []string{"", "ab", "", "\x00", "cd\xff", "e"} {
		want(t, "Append", d.Append("log", part), api.OK)
		holds(t, d, "log", ("ab\x00cd\xffe")[:[]int{0, 2, 2, 3, 6, 7}[i]], 0)
		called(t, d, "log")
	}
	want(t, "Sync", d.Sync("log"), api.OK)
	want(t, "Append", d.Append("log", "fg"), api.OK)
	holds(t, d, "log", "ab\x00cd\xffefg", 7)
	want(t, "Append", d.Append("b", "h"), api.OK)
	holds(t, d, "log", "ab\x00cd\xffefg", 7)
	holds(t, d, "b", "h", 0)
}

func TestAppendToTheLimitOfAFile(t *testing.T) {
	for _, first := range []int{0, 1, 3, 1 << 16, api.MaxFile - 1, api.MaxFile} {
		d := New()
		all := rising(api.MaxFile)
		put(t, d, "log", all[:first], all[first:])
		holds(t, d, "log", all, first)
		want(t, "Append of one more", d.Append("log", "a"), api.ErrFull)
		want(t, "Append of many more", d.Append("log", all), api.ErrFull)
		want(t, "Append of nothing", d.Append("log", ""), api.OK)
		holds(t, d, "log", all, first)
		want(t, "Append to another", d.Append("b", all), api.OK)
		want(t, "Cut", d.Cut("log", api.MaxFile-2), api.OK)
		want(t, "Append of one too many", d.Append("log", "abc"), api.ErrFull)
		want(t, "Append of as many as there is room for", d.Append("log", "ab"), api.OK)
		holds(t, d, "log", all[:api.MaxFile-2]+"ab", api.MaxFile-2)
	}
}

func TestAppendOfTooMuchMakesNoFile(t *testing.T) {
	for _, n := range []int{api.MaxFile + 1, api.MaxFile + 2, 2 * api.MaxFile} {
		d := New()
		want(t, "Append", d.Append("log", strings.Repeat("a", n)), api.ErrFull)
		gone(t, d, "log")
		called(t, d)
		if d.Steps() != 0 {
			t.Error("a refused Append is a step")
		}
	}
}

func TestAppendByBytesToTheLimit(t *testing.T) {
	d := New()
	for range api.MaxFile {
		if err := d.Append("log", "a"); err != api.OK {
			t.Fatalf("Append answers %d", err)
		}
	}
	want(t, "Append", d.Append("log", "a"), api.ErrFull)
	holds(t, d, "log", strings.Repeat("a", api.MaxFile), 0)
}

func TestAppendToTheLimitOfADisk(t *testing.T) {
	d := New()
	fill(t, d)
	before := shape(d)
	for _, data := range []string{"", "a", strings.Repeat("a", api.MaxFile+1)} {
		want(t, "Append to one more file", d.Append("more", data), api.ErrFull)
	}
	if shape(d) != before {
		t.Fatal("a refused Append changed the disk")
	}
	want(t, "Append to one that is there", d.Append("f3", "y"), api.OK)
	holds(t, d, "f3", "xy", 0)
	want(t, "Rename", d.Rename("f3", "g3"), api.OK)
	want(t, "Append to one more file", d.Append("f3", "a"), api.ErrFull)
	want(t, "Rename onto another", d.Rename("g3", "f4"), api.OK)
	want(t, "Append", d.Append("f3", "a"), api.OK)
	want(t, "Append to one more file", d.Append("more", "a"), api.ErrFull)
	want(t, "Delete", d.Delete("f15"), api.OK)
	want(t, "Append", d.Append("more", "a"), api.OK)
	want(t, "Append to one more file", d.Append("f15", "a"), api.ErrFull)
	if len(d.Names()) != api.MaxFiles {
		t.Error("there aren't as many files as there may be")
	}
}

func TestSync(t *testing.T) {
	d := New()
	want(t, "Append", d.Append("log", "abc"), api.OK)
	want(t, "Append", d.Append("b", "de"), api.OK)
	want(t, "Sync", d.Sync("log"), api.OK)
	holds(t, d, "log", "abc", 3)
	holds(t, d, "b", "de", 0)
	want(t, "Append", d.Append("log", "fg"), api.OK)
	holds(t, d, "log", "abcfg", 3)
	want(t, "Sync", d.Sync("log"), api.OK)
	want(t, "Sync", d.Sync("log"), api.OK)
	holds(t, d, "log", "abcfg", 5)
	put(t, d, "empty", "", "")
	holds(t, d, "empty", "", 0)
	want(t, "Sync of none", d.Sync("none"), api.ErrNone)
	called(t, d, "b", "empty", "log")
}

func TestCut(t *testing.T) {
	for safe := range 7 {
		for n := range 7 {
			d := New()
			put(t, d, "log", "abcdef"[:safe], "abcdef"[safe:])
			want(t, "Cut", d.Cut("log", n), api.OK)
			holds(t, d, "log", "abcdef"[:n], n)
			want(t, "Append", d.Append("log", "xy"), api.OK)
			holds(t, d, "log", "abcdef"[:n]+"xy", n)
			d.Off(1)
			d.On()
			holds(t, d, "log", "abcdef"[:n]+"x", n+1)
		}
	}
}

func TestCutRefused(t *testing.T) {
	d := New()
	put(t, d, "log", "abc", "de")
	put(t, d, "empty", "", "")
	before := shape(d)
	for _, n := range []int{-1, -2, -5, 6, 7, api.MaxFile, math.MinInt, math.MinInt + 1, math.MaxInt, 1 << 32, 1<<32 + 3, -1 << 32} {
		want(t, "Cut", d.Cut("log", n), api.ErrArg)
		want(t, "Cut of an empty file", d.Cut("empty", n), api.ErrArg)
		want(t, "Cut of no file", d.Cut("none", n), api.ErrNone)
	}
	want(t, "Cut of an empty file to 1", d.Cut("empty", 1), api.ErrArg)
	want(t, "Cut of no file", d.Cut("none", 0), api.ErrNone)
	if shape(d) != before {
		t.Error("a refused Cut changed the disk")
	}
	want(t, "Cut of an empty file", d.Cut("empty", 0), api.OK)
	want(t, "Cut to all", d.Cut("log", 5), api.OK)
	holds(t, d, "log", "abcde", 5)
}

func TestRename(t *testing.T) {
	d := New()
	put(t, d, "a", "abc", "de")
	put(t, d, "b", "f", "")
	want(t, "Rename", d.Rename("a", "c"), api.OK)
	called(t, d, "b", "c")
	gone(t, d, "a")
	holds(t, d, "c", "abcde", 3)
	want(t, "Rename onto another", d.Rename("c", "b"), api.OK)
	called(t, d, "b")
	holds(t, d, "b", "abcde", 3)
	want(t, "Rename to itself", d.Rename("b", "b"), api.OK)
	called(t, d, "b")
	holds(t, d, "b", "abcde", 3)
	want(t, "Append", d.Append("b", "g"), api.OK)
	want(t, "Append", d.Append("a", "new"), api.OK)
	holds(t, d, "b", "abcdeg", 3)
	holds(t, d, "a", "new", 0)
	for _, to := range []string{"c", "none", "b", "a"} {
		want(t, "Rename of none", d.Rename("none", to), api.ErrNone)
	}
	called(t, d, "a", "b")
	holds(t, d, "b", "abcdeg", 3)
	d.Off(2)
	d.On()
	holds(t, d, "b", "abcdeg"[:3+2], 5)
	holds(t, d, "a", "ne", 2)
}

func TestDelete(t *testing.T) {
	d := New()
	put(t, d, "a", "abc", "de")
	put(t, d, "b", "f", "g")
	want(t, "Delete", d.Delete("a"), api.OK)
	gone(t, d, "a")
	called(t, d, "b")
	holds(t, d, "b", "fg", 1)
	want(t, "Delete of none", d.Delete("a"), api.ErrNone)
	for _, one := range deeds("a", "c")[2:] {
		want(t, one.what, one.do(d), api.ErrNone)
	}
	want(t, "Append", d.Append("a", "x"), api.OK)
	holds(t, d, "a", "x", 0)
	want(t, "Delete", d.Delete("b"), api.OK)
	want(t, "Delete", d.Delete("a"), api.OK)
	called(t, d)
}

// What came and went stays so, wherever the power goes behind it, without a Sync.
func TestNamesComeAndGoForGood(t *testing.T) {
	d := New()
	put(t, d, "a", "abc", "")
	put(t, d, "b", "def", "")
	want(t, "Append", d.Append("c", "ghi"), api.OK)
	want(t, "Rename", d.Rename("a", "d"), api.OK)
	want(t, "Delete", d.Delete("b"), api.OK)
	d.Off(0)
	called(t, d, "c", "d")
	d.On()
	holds(t, d, "c", "", 0)
	holds(t, d, "d", "abc", 3)
}

// P6.3

// Each operation that an armed disk's power goes at: an Append is done, whatever
// else isn't.
func TestThePowerGoesAtEachOperation(t *testing.T) {
	for keep := -2; keep < 9; keep++ {
		for i, one := range deeds("log", "b") {
			d := New()
			put(t, d, "log", "abc", "de")
			put(t, d, "b", "f", "g")
			d.Arm(0, keep)
			want(t, one.what, one.do(d), api.ErrDown)
			if !d.Down() || d.Steps() != 6 {
				t.Fatalf("%s: it is up, or there are %d steps", one.what, d.Steps())
			}
			data := "abcde"
			if i == 0 {
				data = "abcdexyz"
			}
			kept := data[:3+max(keep, 0)%(len(data)-2)]
			called(t, d, "b", "log")
			d.On()
			holds(t, d, "log", kept, len(kept))
			holds(t, d, "b", "fg"[:1+max(keep, 0)%2], 1+max(keep, 0)%2)
			want(t, one.what+" behind On", one.do(d), api.OK)
			if d.Down() || d.Steps() != 7 {
				t.Fatalf("%s: it is down, or there are %d steps", one.what, d.Steps())
			}
		}
	}
}

// A file that the Append makes, at which the power goes, is there.
func TestThePowerGoesAtANewFile(t *testing.T) {
	for _, c := range []struct {
		data string
		keep int
		kept string
	}{{"abc", -1, ""}, {"abc", 0, ""}, {"abc", 1, "a"}, {"abc", 3, "abc"}, {"abc", 4, ""}, {"", 0, ""}, {"", 7, ""}} {
		d := New()
		d.Arm(0, c.keep)
		want(t, "Append", d.Append("log", c.data), api.ErrDown)
		called(t, d, "log")
		d.On()
		holds(t, d, "log", c.kept, len(c.kept))
		if d.Steps() != 0 {
			t.Error("the Append at which the power went is a step")
		}
	}
}

func TestThePowerGoesBehindMore(t *testing.T) {
	for n := range 30 {
		d, all := New(), inOrder()
		d.Arm(n, 2)
		for i := range n {
			one := all[i%len(all)]
			want(t, one.what, one.do(d), api.OK)
		}
		if d.Down() || d.Steps() != n {
			t.Fatalf("behind %d operations it is down, or has %d steps", n, d.Steps())
		}
		want(t, "Append", d.Append("more", "abc"), api.ErrDown)
		if !d.Down() || d.Steps() != n || d.Safe("more") != 2 {
			t.Fatalf("at the operation behind %d it is up, or has %d steps, or kept %d bytes", n, d.Steps(), d.Safe("more"))
		}
	}
}

// What is refused, and what is no operation, is none of the operations ahead.
func TestRefusedOnesAreNotCounted(t *testing.T) {
	for n := range 3 {
		d := New()
		fill(t, d)
		d.Arm(n, 0)
		for range n {
			want(t, "Append", d.Append("f1", "y"), api.OK)
		}
		before := shape(d)
		for range 3 {
			want(t, "Append to one more file", d.Append("more", "a"), api.ErrFull)
			want(t, "Append of too much", d.Append("f0", strings.Repeat("a", api.MaxFile)), api.ErrFull)
			want(t, "Append", d.Append("F0", "a"), api.ErrName)
			want(t, "Sync", d.Sync("none"), api.ErrNone)
			want(t, "Cut", d.Cut("none", 0), api.ErrNone)
			want(t, "Cut", d.Cut("f0", -1), api.ErrArg)
			want(t, "Cut", d.Cut("f0", 2), api.ErrArg)
			want(t, "Rename", d.Rename("none", "f0"), api.ErrNone)
			want(t, "Rename", d.Rename("f0", ""), api.ErrName)
			want(t, "Delete", d.Delete("none"), api.ErrNone)
			_, err := d.Read("none")
			want(t, "Read", err, api.ErrNone)
		}
		if shape(d) != before {
			t.Fatal("a refused operation changed the disk")
		}
		want(t, "Sync", d.Sync("f0"), api.ErrDown)
	}
}

func TestArmAnew(t *testing.T) {
	d := New()
	d.Arm(0, 0)
	d.Arm(2, 1)
	want(t, "Append", d.Append("log", "ab"), api.OK)
	d.Arm(1, 3)
	want(t, "Append", d.Append("log", "cd"), api.OK)
	want(t, "Append", d.Append("log", "ef"), api.ErrDown)
	d.On()
	holds(t, d, "log", "abc", 3)
	d.Arm(math.MaxInt, math.MaxInt)
	for range 100 {
		want(t, "Sync", d.Sync("log"), api.OK)
	}
}

func TestDisarm(t *testing.T) {
	for _, n := range []int{-1, -2, math.MinInt} {
		d := New()
		d.Arm(0, 0)
		d.Arm(n, 5)
		for range 9 {
			want(t, "Append", d.Append("log", "ab"), api.OK)
		}
		if d.Down() || d.Steps() != 9 {
			t.Fatalf("behind Arm of %d it is armed", n)
		}
		d.Off(1)
		d.On()
		holds(t, d, "log", "a", 1)
	}
}

// A disk that is down can't be armed, and one that comes up isn't, whether the
// power had gone or not.
func TestUpIsNotArmed(t *testing.T) {
	for _, c := range []struct {
		what string
		do   func(d *Disk)
	}{
		{"Off", func(d *Disk) { d.Off(0) }},
		{"Arm and Off", func(d *Disk) { d.Arm(0, 0); d.Off(0) }},
		{"Off and Arm", func(d *Disk) { d.Off(0); d.Arm(0, 0) }},
		{"Off and Arm of 1", func(d *Disk) { d.Off(0); d.Arm(1, 0) }},
		{"Arm", func(d *Disk) { d.Arm(0, 0) }},
		{"Arm of 1", func(d *Disk) { d.Arm(1, 0) }},
		{"Arm and Sync", func(d *Disk) { d.Arm(0, 0); d.Sync("log") }},
		{"Arm and Append", func(d *Disk) { d.Arm(0, 0); d.Append("log", "") }},
		{"Arm, Sync and Arm", func(d *Disk) { d.Arm(0, 0); d.Sync("log"); d.Arm(0, 0) }},
	} {
		d := New()
		put(t, d, "log", "abc", "")
		c.do(d)
		d.On()
		if d.Down() {
			t.Fatalf("%s, On: it is down", c.what)
		}
		for range 5 {
			want(t, c.what, d.Append("log", "d"), api.OK)
		}
		holds(t, d, "log", "abcddddd", 3)
		d.Arm(0, 0)
		want(t, c.what, d.Append("log", "e"), api.ErrDown)
	}
}

// P6.4

func TestOff(t *testing.T) {
	data := "abcdef"
	for safe := range 7 {
		for keep := range 30 {
			d := New()
			put(t, d, "log", data[:safe], data[safe:])
			d.Off(keep)
			kept := safe + keep%(6-safe+1)
			if !d.Down() || d.Safe("log") != kept {
				t.Fatalf("Off(%d) keeps %d bytes, %d of which were safe", keep, d.Safe("log"), safe)
			}
			d.On()
			holds(t, d, "log", data[:kept], kept)
			want(t, "Append", d.Append("log", "xy"), api.OK)
			holds(t, d, "log", data[:kept]+"xy", kept)
		}
		for _, keep := range []int{-1, -2, -3, -7, -8, math.MinInt, math.MinInt + 1} {
			d := New()
			put(t, d, "log", data[:safe], data[safe:])
			d.Off(keep)
			d.On()
			holds(t, d, "log", data[:safe], safe)
		}
	}
}

func TestOffOfTheGreatest(t *testing.T) {
	for loose := range 40 {
		for _, keep := range []int{math.MaxInt, math.MaxInt - 1, math.MaxInt - 2, 1 << 62, 1 << 32, 1<<31 - 1} {
			d := New()
			put(t, d, "log", "abc", rising(loose))
			d.Off(keep)
			d.On()
			kept := keep - keep/(loose+1)*(loose+1)
			holds(t, d, "log", "abc"+rising(loose)[:kept], 3+kept)
		}
	}
}

// Each file keeps by what it has itself.
func TestOffOfManyFiles(t *testing.T) {
	for keep := range 40 {
		d := New()
		for i := range api.MaxFiles {
			put(t, d, fmt.Sprintf("f%d", i), rising(i%5), rising(i))
		}
		d.Off(keep)
		d.On()
		for i := range api.MaxFiles {
			kept := keep % (i + 1)
			holds(t, d, fmt.Sprintf("f%d", i), rising(i%5)+rising(i)[:kept], i%5+kept)
		}
	}
}

// The power can't go twice: what is left is as it is.
func TestOffOfADiskThatIsDown(t *testing.T) {
	d := New()
	put(t, d, "log", "abc", "defg")
	d.Off(2)
	for _, keep := range []int{-1, 0, 1, 3, math.MaxInt} {
		d.Off(keep)
		if !d.Down() || d.Safe("log") != 5 {
			t.Fatal("Off of a disk that is down does something")
		}
	}
	d.On()
	holds(t, d, "log", "abcde", 5)
	d.Off(0)
	d.On()
	holds(t, d, "log", "abcde", 5)
}

func TestOnOfADiskThatIsUp(t *testing.T) {
	d := New()
	put(t, d, "log", "abc", "de")
	before := shape(d)
	d.On()
	d.On()
	if shape(d) != before {
		t.Fatal("On changes a disk that is up")
	}
	holds(t, d, "log", "abcde", 3)
}

func TestNames(t *testing.T) {
	list := []string{"-", "--", ".", ".-", "0", "10", "9", "a", "a-", "a.", "a0", "aa", "ab", "b", "log-10", "log-9"}
	if !slices.IsSorted(list) {
		t.Fatal("the test's own list isn't sorted")
	}
	random := chance()
	for range 50 {
		d := New()
		for _, i := range random.Perm(len(list)) {
			want(t, "Append", d.Append(list[i], ""), api.OK)
		}
		called(t, d, list...)
		d.Off(0)
		called(t, d, list...)
		d.On()
		called(t, d, list...)
	}
}

func TestSafe(t *testing.T) {
	d := New()
	put(t, d, "log", "abc", "de")
	put(t, d, "b", "", "fg")
	for name, n := range map[string]int{"log": 3, "b": 0, "none": 0, "": 0, "LOG": 0, "lo": 0} {
		if d.Safe(name) != n {
			t.Errorf("Safe(%q) is %d", name, d.Safe(name))
		}
	}
	d.Off(1)
	for name, n := range map[string]int{"log": 4, "b": 1, "none": 0, "": 0} {
		if d.Safe(name) != n {
			t.Errorf("down, Safe(%q) is %d", name, d.Safe(name))
		}
	}
}

func TestSteps(t *testing.T) {
	d := New()
	for i, one := range inOrder() {
		want(t, one.what, one.do(d), api.OK)
		// None of these is a step; of the three bytes appended first all are kept.
		d.Sync("none")
		d.Append("", "")
		d.Read("log")
		d.Names()
		d.Safe("log")
		d.Arm(3, 0)
		d.Off(3)
		d.Sync("log")
		d.On()
		if d.Steps() != i+1 {
			t.Fatalf("%s: there are %d steps, not %d", one.what, d.Steps(), i+1)
		}
	}
}

func TestNil(t *testing.T) {
	var d *Disk
	for _, name := range []string{"log", "none", "Log", ""} {
		for _, one := range faulty(name) {
			want(t, one.what, one.do(d), api.ErrNil)
		}
		data, err := d.Read(name)
		if data != "" || err != api.ErrNil || d.Safe(name) != 0 {
			t.Errorf("Read(%q) of nil is %q, %d, or Safe isn't 0", name, data, err)
		}
	}
	d.Arm(0, 0)
	d.Off(0)
	d.On()
	if len(d.Names()) != 0 || d.Down() || d.Steps() != 0 {
		t.Error("a nil disk tells something")
	}
}

// P6.5

func TestTwoDisks(t *testing.T) {
	one, other := New(), New()
	put(t, one, "log", "abc", "de")
	called(t, other)
	put(t, other, "log", "x", "yz")
	one.Arm(0, 0)
	want(t, "Sync", other.Sync("log"), api.OK)
	want(t, "Sync", one.Sync("log"), api.ErrDown)
	if other.Down() || other.Steps() != 4 || one.Steps() != 3 {
		t.Fatal("the disks have power or steps in common")
	}
	holds(t, other, "log", "xyz", 3)
	want(t, "Delete", other.Delete("log"), api.OK)
	one.On()
	holds(t, one, "log", "abc", 3)
}

func TestNewMemory(t *testing.T) {
	d := New()
	put(t, d, "a", "abc", "de")
	put(t, d, "b", "f", "g")
	first, second := d.Names(), d.Names()
	first[0] = "changed"
	_ = append(first[:1], "changed")
	called(t, d, "a", "b")
	if !slices.Equal(second, []string{"a", "b"}) {
		t.Error("two answers share memory")
	}
	old, _ := d.Read("a")
	want(t, "Cut", d.Cut("a", 1), api.OK)
	want(t, "Append", d.Append("a", "xyzuvw"), api.OK)
	if old != "abcde" {
		t.Errorf("what Read answered is %q now", old)
	}
	holds(t, d, "a", "axyzuvw", 1)
}
