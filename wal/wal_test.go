package wal

import (
	"encoding/binary"
	"fmt"
	"hash/crc32"
	"math"
	"math/rand"
	"slices"
	"strings"
	"testing"

	"tenancy/api"
	"tenancy/files"
)

func chance() *rand.Rand { return rand.New(rand.NewSource(7)) }

// noise is n bytes that a random source gives.
func noise(n int, random *rand.Rand) string {
	list := make([]byte, n)
	random.Read(list)
	return string(list)
}

// headed is bytes with this length and this sum ahead of them, right or not.
func headed(length uint32, sum uint32, data string) string {
	list := binary.BigEndian.AppendUint32(nil, length)
	return string(binary.BigEndian.AppendUint32(list, sum)) + data
}

// framed is the right frames of records, those of none and of too many bytes too.
func framed(records ...string) string {
	list := make([]string, len(records))
	for i, record := range records {
		list[i] = headed(uint32(len(record)), crc32.ChecksumIEEE([]byte(record)), record)
	}
	return strings.Join(list, "")
}

// plainScan is Scan once more, as plainly as the chapter can be written down.
func plainScan(data string) ([]string, int) {
	var records []string
	for rest := []byte(data); ; {
		if len(rest) < 8 {
			return records, len(data) - len(rest)
		}
		n := int(binary.BigEndian.Uint32(rest))
		if n < 1 || n > 65536 || len(rest)-8 < n || crc32.ChecksumIEEE(rest[8:8+n]) != binary.BigEndian.Uint32(rest[4:]) {
			return records, len(data) - len(rest)
		}
		records = append(records, string(rest[8:8+n]))
		rest = rest[8+n:]
	}
}

// want fails unless a call answered just this.
func want(t *testing.T, what string, got api.Errno, wanted api.Errno) {
	t.Helper()
	if got != wanted {
		t.Fatalf("%s answers %d, not %d", what, got, wanted)
	}
}

// scans fails unless Scan finds just these records in just so many bytes.
func scans(t *testing.T, what string, data string, size int, records ...string) {
	t.Helper()
	got, n := Scan(data)
	if n != size || !slices.Equal(got, records) {
		t.Fatalf("Scan of %s finds %d records in %d bytes, not %d in %d", what, len(got), n, len(records), size)
	}
}

// opened is the log of a file that has just these whole frames.
func opened(t *testing.T, d *files.Disk, name string, records ...string) *Log {
	t.Helper()
	l, got, err := Open(d, name)
	want(t, "Open", err, api.OK)
	if l == nil || !slices.Equal(got, records) {
		t.Fatalf("Open of %q finds %q, not %q", name, got, records)
	}
	sized(t, l, len(framed(records...)))
	return l
}

// refused fails unless Open answers an error and nothing beside it.
func refused(t *testing.T, d *files.Disk, name string, err api.Errno) {
	t.Helper()
	l, records, got := Open(d, name)
	if got != err || l != nil || len(records) != 0 {
		t.Fatalf("Open of %q answers %v, %q, %d, not %d", name, l, records, got, err)
	}
}

// add appends records to a log.
func add(t *testing.T, l *Log, records ...string) {
	t.Helper()
	for _, record := range records {
		want(t, "Append", l.Append(record), api.OK)
	}
}

func sized(t *testing.T, l *Log, size int) {
	t.Helper()
	if got := l.Size(); got != size {
		t.Fatalf("Size is %d, not %d", got, size)
	}
}

// put makes a file of bytes of which only the first ones are safe.
func put(t *testing.T, d *files.Disk, name string, safe string, loose string) {
	t.Helper()
	want(t, "the disk's Append", d.Append(name, safe), api.OK)
	want(t, "the disk's Sync", d.Sync(name), api.OK)
	if loose != "" {
		want(t, "the disk's Append", d.Append(name, loose), api.OK)
	}
}

// holds fails unless a disk that is up has just this file of this name.
func holds(t *testing.T, d *files.Disk, name string, data string, safe int) {
	t.Helper()
	got, err := d.Read(name)
	if err != api.OK || got != data || d.Safe(name) != safe {
		t.Fatalf("%s has %d bytes, %d of them safe, error %d; not %d bytes, %d safe", name, len(got), d.Safe(name), err, len(data), safe)
	}
}

// shape is all that can be told of a disk that is up, but for how it is armed.
func shape(d *files.Disk) string {
	list := []string{fmt.Sprint(d.Down(), d.Steps())}
	for _, name := range d.Names() {
		data, err := d.Read(name)
		list = append(list, fmt.Sprintf("%q %q %d %d", name, data, d.Safe(name), err))
	}
	return strings.Join(list, "\n")
}

// still fails unless a call leaves a disk as it is.
func still(t *testing.T, d *files.Disk, what string, call func() api.Errno, err api.Errno) {
	t.Helper()
	before := shape(d)
	want(t, what, call(), err)
	if shape(d) != before {
		t.Fatalf("%s changes the disk", what)
	}
}

// The chapter's examples.

func TestExamples(t *testing.T) {
	frame, err := Frame("a")
	if frame != "\x00\x00\x00\x01\xe8\xb7\xbe\x43a" || err != api.OK {
		t.Errorf("Frame of a is %x, %d", frame, err)
	}
	if frame, err := Frame(""); frame != "" || err != api.ErrArg {
		t.Errorf("Frame of nothing is %x, %d", frame, err)
	}
	scans(t, "two frames and three bytes", frame+frame+"abc", 18, "a", "a")
	scans(t, "abc", "abc", 0)
	scans(t, "a frame with another last byte", frame[:8]+"b", 0)

	d := files.New()
	l := opened(t, d, "log")
	add(t, l, "a")
	want(t, "Sync", l.Sync(), api.OK)
	add(t, l, "bc")
	d.Off(4)
	d.On()
	holds(t, d, "log", frame+framed("bc")[:4], 13)
	opened(t, d, "log", "a")
	holds(t, d, "log", frame, 9)
}

// P7.1

// sizes are numbers of bytes that a record may have.
func sizes() []int {
	return []int{1, 2, 3, 7, 8, 9, 127, 128, 254, 255, 256, 257, 4095, 4096, 65534, 65535, 65536}
}

func TestFrame(t *testing.T) {
	random := chance()
	for _, n := range sizes() {
		for _, record := range []string{strings.Repeat("\x00", n), strings.Repeat("\xff", n), noise(n, random), noise(n, random)} {
			got, err := Frame(record)
			if got != framed(record) || err != api.OK {
				t.Fatalf("Frame of %d bytes isn't right, error %d", n, err)
			}
			scans(t, "a frame", got, n+8, record)
		}
	}
}

func TestFrameOfNoRecord(t *testing.T) {
	for _, n := range []int{0, 65537, 65538, 131072, 1 << 20, 1 << 24} {
		if got, err := Frame(strings.Repeat("a", n)); got != "" || err != api.ErrArg {
			t.Errorf("Frame of %d bytes is %d bytes, %d", n, len(got), err)
		}
	}
}

// rows are rows of records, some of which look like frames, or like parts of them.
func rows(random *rand.Rand) [][]string {
	list := [][]string{
		nil, {"a"}, {"a", "a"}, {"\x00"}, {strings.Repeat("\x00", 20)}, {framed("a")}, {framed("a", "bc"), "d"},
		{framed("a")[:5], framed("a")[5:]}, {"a", "bc", "def", "ghij"}, {framed(""), framed("b")}, {"\xff\xff\xff\xfe", "\x00\x00\x00\x01"},
	}
	for range 20 {
		var row []string
		for range 1 + random.Intn(5) {
			row = append(row, noise(1+random.Intn(12), random))
		}
		list = append(list, row)
	}
	return list
}

func TestScanOfFrames(t *testing.T) {
	random := chance()
	for _, row := range rows(random) {
		scans(t, "frames", framed(row...), len(framed(row...)), row...)
	}
	var all []string
	for _, n := range sizes() {
		all = append(all, noise(n, random))
	}
	scans(t, "frames of all sizes", framed(all...), len(framed(all...)), all...)
	many := slices.Repeat([]string{"x"}, 100000)
	scans(t, "many frames", framed(many...), 900000, many...)
}

// Of frames that end anywhere the whole ones are found, whatever stands behind.
func TestScanOfTornFrames(t *testing.T) {
	for _, row := range rows(chance()) {
		data := framed(row...)
		for i := range row {
			from, to := len(framed(row[:i]...)), len(framed(row[:i+1]...))
			for end := from; end < to; end++ {
				scans(t, "torn frames", data[:end], from, row[:i]...)
			}
			scans(t, "frames and an empty one", data[:to]+framed(""), to, row[:i+1]...)
			scans(t, "frames and zeros", data[:to]+strings.Repeat("\x00", 30), to, row[:i+1]...)
			scans(t, "frames and a right one behind a byte", data[:to]+"\x00"+framed("a"), to, row[:i+1]...)
		}
	}
}

// A frame that isn't right ends the row; the right ones behind it aren't found.
func TestScanOfChangedFrames(t *testing.T) {
	for _, row := range rows(chance()) {
		data := framed(row...)
		for at := range len(data) {
			for bit := range 8 {
				list := []byte(data)
				list[at] ^= 1 << bit
				i := 0
				for len(framed(row[:i+1]...)) <= at {
					i++
				}
				scans(t, "changed frames", string(list), len(framed(row[:i]...)), row[:i]...)
			}
		}
	}
}

func TestScanOfWrongLengths(t *testing.T) {
	empty := framed("")
	long := strings.Repeat("a", api.MaxFrame+1)
	for what, data := range map[string]string{
		"an empty frame":                  empty,
		"empty frames":                    empty + empty,
		"too long a frame":                framed(long),
		"far too long a frame":            framed(strings.Repeat(long, 20)),
		"a length of 2^31":                headed(1<<31, crc32.ChecksumIEEE([]byte(long)), long),
		"a length of 2^31 + 1":            headed(1<<31+1, crc32.ChecksumIEEE([]byte("a")), "a"),
		"a length of 2^32 - 1":            headed(math.MaxUint32, crc32.ChecksumIEEE([]byte("a")), "a"),
		"a length of 2^16 + 1":            headed(1<<16+1, crc32.ChecksumIEEE([]byte("a")), "a"),
		"a length one too great":          headed(2, crc32.ChecksumIEEE([]byte("a")), "a"),
		"a length one too small":          headed(1, crc32.ChecksumIEEE([]byte("ab")), "ab"),
		"a length, the lowest byte first": "\x01\x00\x00\x00" + framed("a")[4:],
		"a sum, the lowest byte first":    "\x00\x00\x00\x01\x43\xbe\xb7\xe8a",
		"a sum of the length too":         headed(1, crc32.ChecksumIEEE([]byte("\x00\x00\x00\x01a")), "a"),
	} {
		scans(t, what, data, 0)
		scans(t, what+" and a right one", data+framed("b"), 0)
		scans(t, what+" behind a right one", framed("b")+data, 9, "b")
	}
}

func TestScanOfAnyBytes(t *testing.T) {
	random := chance()
	for range 20000 {
		data := framed(noise(random.Intn(3), random)) + noise(random.Intn(4), random)
		for range random.Intn(4) {
			data += framed(noise(1+random.Intn(4), random))
		}
		list := []byte(data)
		for range random.Intn(3) {
			list[random.Intn(len(list))] = byte(random.Intn(4))
		}
		records, size := plainScan(string(list))
		scans(t, fmt.Sprintf("%x", list), string(list), size, records...)
	}
}

// P7.2

func TestOpenOfNoLog(t *testing.T) {
	d := files.New()
	put(t, d, "log", framed("a")+"torn", "")
	for _, name := range []string{"", "Log", "a b", "log\x00", strings.Repeat("a", api.MaxName+1)} {
		refused(t, nil, name, api.ErrNil)
		refused(t, d, name, api.ErrName)
	}
	refused(t, nil, "log", api.ErrNil)
	d.Off(0)
	for _, name := range []string{"log", "none", "", "Log"} {
		refused(t, d, name, api.ErrDown)
	}
	d.On()
	holds(t, d, "log", framed("a")+"torn", 13)
}

func TestOpenOfNoFile(t *testing.T) {
	d := files.New()
	put(t, d, "log", framed("a"), "")
	for _, name := range []string{"new", "-", strings.Repeat("z", api.MaxName)} {
		// At an operation the power would go.
		d.Arm(0, 0)
		still(t, d, "Open", func() api.Errno {
			opened(t, d, name)
			return api.OK
		}, api.OK)
	}
	if names := d.Names(); !slices.Equal(names, []string{"log"}) {
		t.Fatalf("the names are %q", names)
	}
}

// A file of whole frames isn't touched, though it has bytes that aren't safe; a
// Sync makes them safe.
func TestOpenOfWholeFrames(t *testing.T) {
	for _, row := range rows(chance()) {
		d := files.New()
		data := framed(row...)
		put(t, d, "log", data[:len(data)/2], data[len(data)/2:])
		var l *Log
		d.Arm(0, 0)
		still(t, d, "Open", func() api.Errno {
			l = opened(t, d, "log", row...)
			return api.OK
		}, api.OK)
		d.Arm(-1, 0)
		want(t, "Sync", l.Sync(), api.OK)
		holds(t, d, "log", data, len(data))
	}
}

// tails are bytes that are no frames.
func tails() []string {
	return []string{"t", "torn", "\x00", strings.Repeat("\x00", 8), framed("abc")[:10], framed("", "a"), "t" + framed("a"), framed(strings.Repeat("a", api.MaxFrame+1))}
}

func TestOpenCuts(t *testing.T) {
	for _, row := range rows(chance()) {
		for _, tail := range tails() {
			d := files.New()
			put(t, d, "log", framed(row...), tail)
			steps := d.Steps()
			l := opened(t, d, "log", row...)
			holds(t, d, "log", framed(row...), len(framed(row...)))
			if d.Steps() != steps+1 {
				t.Fatalf("Open did %d operations", d.Steps()-steps)
			}
			add(t, l, "behind")
			holds(t, d, "log", framed(row...)+framed("behind"), len(framed(row...)))
			opened(t, d, "log", append(slices.Clone(row), "behind")...)
		}
	}
}

// Where the power goes at the cutting Open answers that, and the bytes are still there.
func TestThePowerGoesInOpen(t *testing.T) {
	for _, tail := range tails() {
		d := files.New()
		put(t, d, "log", framed("a", "bc")+tail, "")
		for range 3 {
			d.Arm(0, 9)
			refused(t, d, "log", api.ErrDown)
			if !d.Down() {
				t.Fatal("the disk is up")
			}
			d.On()
			holds(t, d, "log", framed("a", "bc")+tail, len(framed("a", "bc")+tail))
		}
		d.Arm(1, 0)
		l := opened(t, d, "log", "a", "bc")
		want(t, "Append", l.Append("d"), api.ErrDown)
	}
}

// P7.3

func TestNilLog(t *testing.T) {
	var l *Log
	for _, payload := range []string{"a", "", strings.Repeat("a", api.MaxFrame+1)} {
		want(t, "Append", l.Append(payload), api.ErrNil)
	}
	want(t, "Sync", l.Sync(), api.ErrNil)
	sized(t, l, 0)
}

func TestAppendAndSync(t *testing.T) {
	d := files.New()
	put(t, d, "other", "x", "y")
	l := opened(t, d, "log")
	size, safe := 0, 0
	data := ""
	for i, n := range sizes() {
		record := noise(n, chance())
		steps := d.Steps()
		add(t, l, record)
		data += framed(record)
		size += n + 8
		holds(t, d, "log", data, safe)
		if i%3 == 0 {
			want(t, "Sync", l.Sync(), api.OK)
			safe = size
			holds(t, d, "log", data, safe)
			steps++
		}
		sized(t, l, size)
		if d.Steps() != steps+1 {
			t.Fatalf("there were %d operations", d.Steps()-steps)
		}
	}
	holds(t, d, "other", "xy", 1)
}

func TestAppendOfNoRecord(t *testing.T) {
	d := files.New()
	l := opened(t, d, "log")
	for _, before := range []string{"", "a"} {
		if before != "" {
			add(t, l, before)
		}
		for _, n := range []int{0, 65537, 1 << 20, 1 << 21} {
			d.Arm(0, 0)
			still(t, d, "Append", func() api.Errno { return l.Append(strings.Repeat("a", n)) }, api.ErrArg)
			d.Arm(-1, 0)
		}
		sized(t, l, len(framed("a"))*len(before))
	}
	add(t, l, "b")
	opened(t, d, "log", "a", "b")
}

// A log whose file isn't there has nothing to sync; one whose file is empty has.
func TestSyncOfNoFile(t *testing.T) {
	d := files.New()
	l := opened(t, d, "log")
	for range 3 {
		d.Arm(0, 0)
		still(t, d, "Sync", l.Sync, api.OK)
	}
	want(t, "Append", l.Append("a"), api.ErrDown)

	d = files.New()
	put(t, d, "log", "", "")
	l = opened(t, d, "log")
	steps := d.Steps()
	want(t, "Sync", l.Sync(), api.OK)
	if d.Steps() != steps+1 {
		t.Fatal("Sync of an empty file did nothing")
	}
	d.Arm(0, 0)
	want(t, "Sync", l.Sync(), api.ErrDown)
}

// brim is records whose frames fill a file to the last byte.
func brim() []string {
	list := slices.Repeat([]string{strings.Repeat("b", api.MaxFrame)}, api.MaxFile/(api.MaxFrame+8))
	return append(list, strings.Repeat("c", api.MaxFile-len(framed(list...))-8))
}

func TestFullFile(t *testing.T) {
	d := files.New()
	l := opened(t, d, "log")
	list := brim()
	add(t, l, list[:len(list)-1]...)
	last := list[len(list)-1]
	still(t, d, "Append", func() api.Errno { return l.Append(last + "c") }, api.ErrFull)
	sized(t, l, len(framed(list[:len(list)-1]...)))
	add(t, l, last)
	sized(t, l, api.MaxFile)
	d.Arm(0, 0)
	for _, payload := range []string{"a", last, strings.Repeat("a", api.MaxFrame)} {
		still(t, d, "Append", func() api.Errno { return l.Append(payload) }, api.ErrFull)
	}
	still(t, d, "Append", func() api.Errno { return l.Append("") }, api.ErrArg)
	d.Arm(-1, 0)
	sized(t, l, api.MaxFile)
	want(t, "Sync", l.Sync(), api.OK)
	opened(t, d, "log", list...)
}

// A log that is refused for want of room isn't ended by that.
func TestFullDisk(t *testing.T) {
	d := files.New()
	l := opened(t, d, "log")
	for i := range api.MaxFiles {
		put(t, d, fmt.Sprintf("f%d", i), "x", "")
	}
	still(t, d, "Append", func() api.Errno { return l.Append("a") }, api.ErrFull)
	still(t, d, "Append", func() api.Errno { return l.Append("") }, api.ErrArg)
	still(t, d, "Sync", l.Sync, api.OK)
	sized(t, l, 0)
	want(t, "Delete", d.Delete("f0"), api.OK)
	add(t, l, "a")
	sized(t, l, 9)
	opened(t, d, "log", "a")
}

// ended fails unless a log whose disk is up is ended, at such a size.
func ended(t *testing.T, d *files.Disk, l *Log, size int) {
	t.Helper()
	for range 2 {
		for _, payload := range []string{"a", "", strings.Repeat("a", api.MaxFrame+1), strings.Repeat("a", api.MaxFrame)} {
			still(t, d, "Append", func() api.Errno { return l.Append(payload) }, api.ErrDown)
		}
		still(t, d, "Sync", l.Sync, api.ErrDown)
		sized(t, l, size)
	}
}

// endings are calls that answer ErrDown; the power goes in them, or had gone.
func endings() map[string]func(d *files.Disk, l *Log) api.Errno {
	return map[string]func(d *files.Disk, l *Log) api.Errno{
		"Append": func(d *files.Disk, l *Log) api.Errno {
			d.Arm(0, 5)
			return l.Append("xyz")
		},
		"Append of which all is kept": func(d *files.Disk, l *Log) api.Errno {
			data, _ := d.Read("log")
			d.Arm(0, len(data)-d.Safe("log")+len(framed("xyz")))
			return l.Append("xyz")
		},
		"Append of a down disk": func(d *files.Disk, l *Log) api.Errno {
			d.Off(0)
			return l.Append("xyz")
		},
		"Append of no record of a down disk": func(d *files.Disk, l *Log) api.Errno {
			d.Off(0)
			return l.Append("")
		},
		"Sync of a down disk": func(d *files.Disk, l *Log) api.Errno {
			d.Off(0)
			return l.Sync()
		},
	}
}

func TestEnded(t *testing.T) {
	for what, call := range endings() {
		for _, row := range rows(chance()) {
			for synced := range len(row) + 1 {
				d := files.New()
				l := opened(t, d, "log")
				add(t, l, row[:synced]...)
				want(t, "Sync", l.Sync(), api.OK)
				add(t, l, row[synced:]...)
				want(t, what, call(d, l), api.ErrDown)
				sized(t, l, len(framed(row...)))
				// Ahead of any other call, since that one would find the disk down too.
				d.On()
				ended(t, d, l, len(framed(row...)))
				d.Off(0)
				want(t, "Append", l.Append("a"), api.ErrDown)
				want(t, "Sync", l.Sync(), api.ErrDown)
			}
		}
	}
}

func TestEndedBySync(t *testing.T) {
	d := files.New()
	l := opened(t, d, "log")
	add(t, l, "a", "bc")
	d.Arm(0, 9)
	want(t, "Sync", l.Sync(), api.ErrDown)
	sized(t, l, 19)
	d.On()
	ended(t, d, l, 19)
	opened(t, d, "log", "a")
	// What is written by another log doesn't wake it.
	other := opened(t, d, "log", "a")
	add(t, other, "d")
	ended(t, d, l, 19)
	opened(t, d, "log", "a", "d")
}

// The size of a down disk's log is still told, and a log is ended by a call of
// its own alone.
func TestNotEnded(t *testing.T) {
	d := files.New()
	l, other := opened(t, d, "log"), opened(t, d, "other")
	add(t, l, "a")
	want(t, "Sync", l.Sync(), api.OK)
	d.Arm(0, 0)
	want(t, "Append", other.Append("x"), api.ErrDown)
	sized(t, l, 9)
	d.On()
	add(t, l, "bc")
	want(t, "Sync", l.Sync(), api.OK)
	sized(t, l, 19)
	opened(t, d, "log", "a", "bc")
}

// P7.5

func TestAnswersAreNewMemory(t *testing.T) {
	d := files.New()
	put(t, d, "log", framed("a", "bc"), "torn")
	l, records, err := Open(d, "log")
	want(t, "Open", err, api.OK)
	records = append(records[:1], "other")
	records[0] = "z"
	add(t, l, "d")
	holds(t, d, "log", framed("a", "bc", "d"), len(framed("a", "bc")))
	opened(t, d, "log", "a", "bc", "d")

	data := framed("a", "bc")
	one, _ := Scan(data)
	one[0], one[1] = "x", "y"
	_ = append(one, "more")
	scans(t, "frames", data, 19, "a", "bc")
	two, _ := Scan(data)
	two[0] = "z"
	if one[0] != "x" || one[1] != "y" {
		t.Fatal("two lists share memory")
	}
}

// Logs of other files, or of other disks, have nothing in common.
func TestLogsAreApart(t *testing.T) {
	d, far := files.New(), files.New()
	one, two, three := opened(t, d, "one"), opened(t, d, "two"), opened(t, far, "one")
	add(t, one, "a")
	add(t, two, "bc", "def")
	sized(t, three, 0)
	want(t, "Sync", two.Sync(), api.OK)
	holds(t, d, "one", framed("a"), 0)
	holds(t, d, "two", framed("bc", "def"), 21)
	far.Off(0)
	want(t, "Append", three.Append("a"), api.ErrDown)
	add(t, one, "ghi")
	sized(t, one, 20)
	sized(t, two, 21)
	opened(t, d, "one", "a", "ghi")
	opened(t, d, "two", "bc", "def")
}
