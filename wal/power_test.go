package wal

import (
	"math/rand"
	"slices"
	"testing"

	"tenancy/api"
	"tenancy/files"
)

// P7.4

// sync stands for a Sync in a row of moves; all else there is a record.
const sync = ""

// promise is what a log has to keep: records that were synced, and those behind,
// of which some of the first ones may be found.
type promise struct {
	synced []string
	loose  []string
}

// play does moves with a log till its power goes, or to the end.
func (p *promise) play(t *testing.T, l *Log, moves []string) {
	t.Helper()
	size := l.Size()
	for _, move := range moves {
		if move == sync {
			err := l.Sync()
			if err == api.OK {
				p.synced, p.loose = append(p.synced, p.loose...), nil
				continue
			}
			want(t, "Sync", err, api.ErrDown)
			break
		}
		// The record in whose Append the power goes may be found too.
		if !l.disk.Down() {
			p.loose = append(p.loose, move)
		}
		err := l.Append(move)
		if err != api.OK {
			want(t, "Append", err, api.ErrDown)
			break
		}
		size += 8 + len(move)
	}
	sized(t, l, size)
}

// kept fails unless Open finds what was promised, again and again; it is handed
// what the disk's power is to do. What was found stands from then on.
func (p *promise) kept(t *testing.T, d *files.Disk, name string, power func()) *Log {
	t.Helper()
	d.On()
	data, none := d.Read(name)
	found, size := plainScan(data)
	least, most := len(p.synced), len(p.synced)+len(p.loose)
	all := slices.Concat(p.synced, p.loose)
	if len(found) < least || len(found) > most || !slices.Equal(found, all[:len(found)]) {
		t.Fatalf("%q are there, not %q and some of %q", found, p.synced, p.loose)
	}
	p.synced, p.loose = found, nil
	power()
	l, records, err := Open(d, name)
	if err == api.ErrDown {
		// The power went at the cutting of what is no whole frame.
		if size == len(data) || l != nil || len(records) != 0 {
			t.Fatalf("Open of %q answers %d", data, err)
		}
		return nil
	}
	want(t, "Open", err, api.OK)
	if !slices.Equal(records, found) {
		t.Fatalf("Open finds %q, not %q", records, found)
	}
	if none == api.OK {
		holds(t, d, name, framed(found...), len(framed(found...)))
	}
	sized(t, l, len(framed(found...)))
	return l
}

// round opens a log while the power is about to go, and plays moves with it.
func (p *promise) round(t *testing.T, d *files.Disk, moves []string, n int, keep int) {
	t.Helper()
	if l := p.kept(t, d, "log", func() { d.Arm(n, keep) }); l != nil {
		p.play(t, l, moves)
	}
}

// The power goes at each operation, and then at each one behind the start, and
// then once more; of what isn't safe each number of bytes is kept.
func TestThePowerGoesEverywhere(t *testing.T) {
	rows := [][]string{
		{"a", sync, "bc", "def", sync, "ghij"},
		{"a", "bc", "def"},
		{sync, "a", sync, sync, framed("b"), framed("c", "d"), sync, "\x00\x00\x00\x00"},
	}
	for _, moves := range rows {
		for first := range len(moves) + 1 {
			for second := range len(moves) + 2 {
				for keep := -1; keep < 40; keep++ {
					d, p := files.New(), &promise{}
					p.round(t, d, moves, first, keep)
					d.Off(keep)
					p.round(t, d, moves, second, keep)
					d.Off(keep)
					p.round(t, d, moves, second, 40-keep)
					d.Off(keep)
					p.kept(t, d, "log", func() {})
				}
			}
		}
	}
}

// some are random moves, with records that are like frames or parts of them.
func some(random *rand.Rand) []string {
	var moves []string
	for range random.Intn(12) {
		record := noise(1+random.Intn(20), random)
		switch random.Intn(6) {
		case 0, 1:
			moves = append(moves, sync)
		case 2:
			moves = append(moves, framed(record))
		case 3:
			moves = append(moves, framed(record)[:1+random.Intn(8)])
		case 4:
			moves = append(moves, noise(1+random.Intn(2000), random))
		default:
			moves = append(moves, record)
		}
	}
	return moves
}

func TestThePowerGoesAnywhere(t *testing.T) {
	random := chance()
	for range 500 {
		d, p := files.New(), &promise{}
		for range 20 {
			p.round(t, d, some(random), random.Intn(14)-1, random.Intn(3000)-2)
			d.Off(random.Intn(3000) - 2)
		}
	}
}

// Two logs of one disk lose their power together, and each keeps its own.
func TestThePowerGoesForTwoLogs(t *testing.T) {
	random := chance()
	for range 500 {
		d, one, two := files.New(), &promise{}, &promise{}
		for range 10 {
			first := one.kept(t, d, "one", func() {})
			second := two.kept(t, d, "two", func() { d.Arm(random.Intn(40), random.Intn(100)) })
			for range 5 {
				if second == nil || d.Down() {
					break
				}
				one.play(t, first, some(random))
				two.play(t, second, some(random))
			}
			d.Off(random.Intn(100))
		}
	}
}

// Large records are torn in their heads, at their ends and in between.
func TestThePowerGoesInLargeRecords(t *testing.T) {
	large := noise(api.MaxFrame, chance())
	for _, keep := range []int{-1, 0, 1, 4, 7, 8, 9, 1000, api.MaxFrame, api.MaxFrame + 7, api.MaxFrame + 8} {
		d, p := files.New(), &promise{}
		p.round(t, d, []string{"a", sync, large, sync, "b"}, 2, keep)
		p.round(t, d, []string{large, large, sync}, 2, keep+api.MaxFrame+8)
		p.kept(t, d, "log", func() {})
	}
}
