package vault

import (
	"fmt"
	"math/rand"
	"slices"
	"testing"

	"tenancy/api"
	"tenancy/files"
)

// P10.5

// promise is what a disk has to keep: the leases behind all Commits that were
// answered OK; or, if the power went in one, those behind that one too.
type promise struct {
	sure plain
	also plain
	// How often the second ones were found, and the power went in an Open.
	behind int
	broken int
	clock  int
}

// move is what is done with a vault: a Commit by which each of some things is
// leased, if it wasn't, and else taken out; of none, a Compact.
type move []uint64

// changes are a move's at some leases. All their leases end at ticks of their own,
// so that no two Commits come to the same leases.
func (p *promise) changes(m move) []api.Change {
	var changes []api.Change
	for _, n := range m {
		p.clock++
		l := four(n, fmt.Sprint("client ", n), p.clock)
		if n%3 == 0 {
			l = bound(api.Deleg, db8(n<<8, 0, 56), fmt.Sprint("client ", n%6), uint32(n), p.clock)
		}
		if slices.ContainsFunc(p.sure, func(old api.Lease) bool { return sameKey(old, l) }) {
			changes = append(changes, takeOut(l))
		} else {
			changes = append(changes, putIn(l))
		}
	}
	return changes
}

// do is what a vault answers to a move.
func (p *promise) do(v *Vault, m move) api.Errno {
	if len(m) == 0 {
		return v.Compact()
	}
	changes := p.changes(m)
	p.also = p.sure.after(changes...)
	err := v.Commit(changes)
	if err == api.OK {
		p.sure = p.also
	}
	return err
}

// play does moves with a vault till its power goes, or to the end.
func (p *promise) play(t *testing.T, d *files.Disk, v *Vault, moves []move) {
	t.Helper()
	for _, m := range moves {
		err := p.do(v, m)
		equal(t, v.Table(), p.sure...)
		if err != api.OK {
			want(t, "a move", err, api.ErrDown)
			if !v.Ended() || !d.Down() {
				t.Fatal("the vault isn't ended")
			}
			return
		}
		if v.Ended() {
			t.Fatal("the vault is ended")
		}
	}
}

// kept is the vault of a disk whose power goes behind n more operations, if it
// doesn't go in its Open. What it finds stands from then on.
func (p *promise) kept(t *testing.T, d *files.Disk, n int, keep int) *Vault {
	t.Helper()
	d.On()
	d.Arm(n, keep)
	v, err := Open(d)
	if err == api.ErrDown {
		if v != nil || !d.Down() {
			t.Fatal("Open answers ErrDown, and a vault")
		}
		p.broken++
		return nil
	}
	want(t, "Open", err, api.OK)
	found := v.Table().All()
	if !slices.Equal(found, p.sure) {
		equal(t, v.Table(), p.also...)
		p.behind++
	}
	p.sure, p.also = found, found
	p.tidy(t, d, v)
	return v
}

// tidy fails unless there are just the files of a vault that was opened.
func (p *promise) tidy(t *testing.T, d *files.Disk, v *Vault) {
	t.Helper()
	log := fmt.Sprint("log-", v.Generation())
	size := 0
	for _, name := range d.Names() {
		data, err := d.Read(name)
		want(t, "Read", err, api.OK)
		if name != log && name != "snap" {
			t.Fatalf("there is a file %s", name)
		}
		if name == log {
			size = len(data)
		}
	}
	if v.Size() != size {
		t.Fatalf("Size is %d, not %d", v.Size(), size)
	}
}

// round opens a disk's vault while the power is about to go, and plays moves with it.
func (p *promise) round(t *testing.T, d *files.Disk, moves []move, n int, keep int) {
	t.Helper()
	if v := p.kept(t, d, n, keep); v != nil {
		p.play(t, d, v, moves)
	}
	d.Off(keep)
}

// closing fails unless a disk's vault finds what was promised, and goes on.
func (p *promise) closing(t *testing.T, d *files.Disk) {
	t.Helper()
	for _, m := range []move{{1}, {}, {2, 3}, {}, {1, 3, 4}} {
		v := p.kept(t, d, -1, 0)
		p.play(t, d, v, []move{m})
	}
	p.kept(t, d, -1, 0)
}

// walk is moves after which the files have all the shapes that they can have: of
// no snapshot and of one, of no log and of one, of one record and of several.
func walk() []move {
	return []move{{}, {1}, {2, 3}, {1}, {}, {1, 4, 2}, {5}, {}, {}, {6, 1, 3, 7}, {}}
}

// length is how many operations a walk has on a new disk.
func length(t *testing.T, moves []move) int {
	t.Helper()
	d, p := files.New(), &promise{}
	p.play(t, d, p.kept(t, d, -1, 0), moves)
	return d.Steps()
}

// ready is a disk whose power went at the operation behind n others of a walk.
func ready(t *testing.T, moves []move, n int, keep int) (*files.Disk, *promise) {
	t.Helper()
	d, p := files.New(), &promise{}
	p.play(t, d, p.kept(t, d, n, keep), moves)
	d.Off(keep)
	return d, p
}

// The power goes at each operation of Commits and Compacts, and each number of
// bytes of what isn't safe is kept.
func TestThePowerGoesEverywhere(t *testing.T) {
	t.Parallel()
	moves := walk()
	all, behind, broken := length(t, moves), 0, 0
	for n := range all + 1 {
		for keep := -1; keep < 300; keep++ {
			d, p := ready(t, moves, n, keep)
			for range 2 {
				p.kept(t, d, -1, 0)
				d.Off(keep)
			}
			p.closing(t, d)
			behind += p.behind
			broken += p.broken
		}
	}
	// At an append all of a record may be kept, and at a sync.
	if behind == 0 || broken != 0 {
		t.Errorf("the Commit in which the power went was found %d times, an Open broke %d times", behind, broken)
	}
}

// keeps are numbers that leave none, some and all of what isn't safe: up to a
// head, a record and its frame, and so on.
func keeps() []int { return []int{-1, 0, 1, 4, 8, 9, 22, 23, 24, 45, 60, 99, 150, 1 << 40} }

// The power goes, and goes again at each operation of the Open behind that, and
// of the next one, and of the one behind.
func TestThePowerGoesInOpen(t *testing.T) {
	t.Parallel()
	moves := walk()
	broken := [3]int{}
	for n := range length(t, moves) + 1 {
		for _, keep := range keeps() {
			for second := range 3 {
				for third := range 3 {
					for _, other := range []int{0, 1, 1 << 40} {
						d, p := ready(t, moves, n, keep)
						p.round(t, d, nil, second, other)
						broken[p.broken]++
						p.round(t, d, nil, third, other)
						broken[p.broken]++
						p.closing(t, d)
					}
				}
			}
		}
	}
	if slices.Min(broken[:]) == 0 {
		t.Errorf("so many disks had so many Opens broken: %d", broken)
	}
}

// The power goes in a walk, and in a walk behind that, and in a third one.
func TestThePowerGoesAgainAndAgain(t *testing.T) {
	t.Parallel()
	moves := walk()
	all := length(t, moves)
	for n := range all + 1 {
		for second := range all + 4 {
			for i := range 5 {
				some := func(n int) int { return keeps()[(3*i+n)%len(keeps())] }
				d, p := ready(t, moves, n, some(n))
				p.round(t, d, moves, second, some(second))
				p.round(t, d, moves, (n+second)%all, some(n+second))
				p.closing(t, d)
			}
		}
	}
}

// things are n that follow one another.
func things(from uint64, n int) move {
	var m move
	for i := range n {
		m = append(m, from+uint64(i))
	}
	return m
}

// Of leases that need several records in a snapshot.
func TestThePowerGoesWithManyLeases(t *testing.T) {
	t.Parallel()
	moves := []move{things(100, 150), {}, things(200, 70), {}, things(300, 64)}
	all := length(t, moves)
	whole := len(snapshot(1, many(200)...))
	for n := range all + 1 {
		for _, keep := range append(keeps(), 1000, 3000, 5000, 7000, whole) {
			d, p := ready(t, moves, n, keep)
			p.round(t, d, []move{{}}, n%9, keep/2)
			p.closing(t, d)
		}
	}
}

// some are random moves.
func some(random *rand.Rand) []move {
	var moves []move
	for range random.Intn(12) {
		if random.Intn(4) == 0 {
			moves = append(moves, nil)
			continue
		}
		most := 5
		if random.Intn(20) == 0 {
			most = 90
		}
		moves = append(moves, things(uint64(1+random.Intn(100)), 1+random.Intn(most)))
	}
	return moves
}

// last does a move with a vault, at whose operations the power may go; of a
// Commit's record it keeps none, some or all.
func (p *promise) last(t *testing.T, d *files.Disk, v *Vault, m move, random *rand.Rand) {
	t.Helper()
	bytes := len(framed(one(p.changes(m)...)))
	d.Arm(random.Intn(4), []int{-1, random.Intn(bytes), bytes}[random.Intn(3)])
	p.play(t, d, v, []move{m})
}

func TestThePowerGoesAnywhere(t *testing.T) {
	t.Parallel()
	random := rand.New(rand.NewSource(10))
	behind, broken := 0, 0
	for range 100 {
		d, p := files.New(), &promise{}
		for range 20 {
			v := p.kept(t, d, random.Intn(40)-1, random.Intn(9000)-1)
			if v != nil {
				p.play(t, d, v, some(random))
			}
			if !d.Down() {
				p.last(t, d, v, things(uint64(random.Intn(100)), random.Intn(6)), random)
			}
			d.Off(random.Intn(100) - 1)
		}
		p.closing(t, d)
		behind += p.behind
		broken += p.broken
	}
	if behind < 100 || broken < 20 {
		t.Errorf("the Commit in which the power went was found %d times, an Open broke %d times", behind, broken)
	}
}

// An empty log, and an empty file that isn't a finished snapshot, are what can be
// left of an append of which nothing is kept.
func TestNothingIsKept(t *testing.T) {
	five := four(5, "a", 10)
	d := files.New()
	v := opened(t, d, 0, 0)
	d.Arm(0, 0)
	want(t, "Commit", v.Commit(putAll(five)), api.ErrDown)
	d.On()
	holds(t, d, "log-0", "")
	v = opened(t, d, 0, 0)
	commit(t, v, putIn(five))
	d.Arm(0, 0)
	want(t, "Compact", v.Compact(), api.ErrDown)
	d.On()
	log := framed(one(putIn(five)))
	holds(t, d, "log-0", log, "new", "")
	opened(t, d, 0, len(log), five)
	holds(t, d, "log-0", log)
}
