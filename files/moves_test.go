package files

import (
	"fmt"
	"math/rand"
	"slices"
	"strings"
	"testing"

	"tenancy/api"
)

// plain is a disk once more, as plainly as the chapter can be written down, to
// hold the other one against.
type plain struct {
	data map[string]string
	safe map[string]int
	down bool
	// arm is n and keep, if it is armed.
	arm   []int
	steps int
}

func newPlain() *plain { return &plain{data: map[string]string{}, safe: map[string]int{}} }

func (m *plain) off(keep int) {
	if m.down {
		return
	}
	for name, data := range m.data {
		loose := data[m.safe[name]:]
		k := 0
		if keep >= 0 {
			k = keep % (len(loose) + 1)
		}
		m.data[name] = data[:m.safe[name]] + loose[:k]
		m.safe[name] = len(m.data[name])
	}
	m.down, m.arm = true, nil
}

func named(names ...string) bool {
	for _, name := range names {
		if len(name) < 1 || len(name) > 32 || strings.Trim(name, "abcdefghijklmnopqrstuvwxyz0123456789.-") != "" {
			return false
		}
	}
	return true
}

// operate is an operation, done by do unless it is refused by err.
func (m *plain) operate(isAppend bool, err api.Errno, do func(), names ...string) api.Errno {
	if m.down {
		return api.ErrDown
	}
	if !named(names...) {
		return api.ErrName
	}
	if err != api.OK {
		return err
	}
	if len(m.arm) > 0 && m.arm[0] == 0 {
		if isAppend {
			do()
		}
		m.off(m.arm[1])
		return api.ErrDown
	}
	do()
	if len(m.arm) > 0 {
		m.arm[0]--
	}
	m.steps++
	return api.OK
}

func (m *plain) missing(name string) api.Errno {
	if _, ok := m.data[name]; !ok {
		return api.ErrNone
	}
	return api.OK
}

// The calls that change a disk.
const (
	doAppend = iota
	doSync
	doCut
	doRename
	doDelete
	doArm
	doOff
	doOn
)

// move is such a call with its arguments.
type move struct {
	kind     int
	name, to string
	data     string
	n, keep  int
}

func (v move) onDisk(d *Disk) api.Errno {
	switch v.kind {
	case doAppend:
		return d.Append(v.name, v.data)
	case doSync:
		return d.Sync(v.name)
	case doCut:
		return d.Cut(v.name, v.n)
	case doRename:
		return d.Rename(v.name, v.to)
	case doDelete:
		return d.Delete(v.name)
	case doArm:
		d.Arm(v.n, v.keep)
	case doOff:
		d.Off(v.keep)
	case doOn:
		d.On()
	}
	return api.OK
}

func (v move) onPlain(m *plain) api.Errno {
	switch v.kind {
	case doAppend:
		err := api.OK
		if len(m.data[v.name])+len(v.data) > api.MaxFile || m.missing(v.name) != api.OK && len(m.data) == api.MaxFiles {
			err = api.ErrFull
		}
		return m.operate(true, err, func() { m.data[v.name] += v.data }, v.name)
	case doSync:
		return m.operate(false, m.missing(v.name), func() { m.safe[v.name] = len(m.data[v.name]) }, v.name)
	case doCut:
		err := m.missing(v.name)
		if err == api.OK && (v.n < 0 || v.n > len(m.data[v.name])) {
			err = api.ErrArg
		}
		return m.operate(false, err, func() { m.data[v.name] = m.data[v.name][:v.n]; m.safe[v.name] = v.n }, v.name)
	case doRename:
		return m.operate(false, m.missing(v.name), func() {
			if v.name != v.to {
				m.data[v.to], m.safe[v.to] = m.data[v.name], m.safe[v.name]
				delete(m.data, v.name)
				delete(m.safe, v.name)
			}
		}, v.name, v.to)
	case doDelete:
		return m.operate(false, m.missing(v.name), func() { delete(m.data, v.name); delete(m.safe, v.name) }, v.name)
	case doArm:
		if !m.down && v.n < 0 {
			m.arm = nil
		} else if !m.down {
			m.arm = []int{v.n, v.keep}
		}
	case doOff:
		m.off(v.keep)
	case doOn:
		m.down, m.arm = false, nil
	}
	return api.OK
}

// same is whether all that a disk tells is what the plain one has.
func same(d *Disk, m *plain) bool {
	if d.Down() != m.down || d.Steps() != m.steps || len(d.Names()) != len(m.data) || !slices.IsSorted(d.Names()) {
		return false
	}
	for name, data := range m.data {
		if !slices.Contains(d.Names(), name) || d.Safe(name) != m.safe[name] {
			return false
		}
		got, err := d.Read(name)
		if m.down && (got != "" || err != api.ErrDown) || !m.down && (got != data || err != api.OK) {
			return false
		}
	}
	return true
}

// pick is a random move; few names and long runs let the limits be met.
func pick(random *rand.Rand, names []string, most int) move {
	kinds := []int{doAppend, doAppend, doAppend, doAppend, doAppend, doSync, doSync, doCut, doRename, doRename, doDelete, doArm, doOff, doOn, doOn}
	v := move{kind: kinds[random.Intn(len(kinds))]}
	v.name, v.to = names[random.Intn(len(names))], names[random.Intn(len(names))]
	v.data = rising(random.Intn(most + 1))
	v.n, v.keep = random.Intn(most+4)-2, random.Intn(2*most+4)-2
	if v.kind == doArm {
		v.n %= 6
	}
	return v
}

func play(t *testing.T, random *rand.Rand, names []string, most int, moves int) {
	t.Helper()
	d, m := New(), newPlain()
	for i := range moves {
		v := pick(random, names, most)
		got, wanted := v.onDisk(d), v.onPlain(m)
		if got != wanted {
			t.Fatalf("move %d, %d of %q to %q with %d bytes, %d, %d: %d, not %d", i, v.kind, v.name, v.to, len(v.data), v.n, v.keep, got, wanted)
		}
		if !same(d, m) {
			t.Fatalf("behind move %d, %d of %q to %q with %d bytes, %d, %d, the disk is another", i, v.kind, v.name, v.to, len(v.data), v.n, v.keep)
		}
	}
}

func TestRandomMoves(t *testing.T) {
	random := chance()
	few := []string{"a", "b", "log-0", "new", "", "A"}
	var many []string
	for i := range api.MaxFiles + 6 {
		many = append(many, fmt.Sprintf("f%d", i))
	}
	for range 300 {
		play(t, random, few, 9, 200)
		play(t, random, many, 3, 300)
	}
	for range 20 {
		play(t, random, few[:3], api.MaxFile*3/4, 60)
	}
}

// A row of operations is begun three times: the power goes at each of them the
// first time, then at each of them the second time, and keeps each number of bytes.
func TestThePowerGoesEverywhere(t *testing.T) {
	row := []move{
		{kind: doAppend, name: "log", data: "abc"}, {kind: doSync, name: "log"}, {kind: doAppend, name: "log", data: "de"},
		{kind: doAppend, name: "new", data: "fgh"}, {kind: doAppend, name: "new", data: "ij"}, {kind: doSync, name: "new"},
		{kind: doRename, name: "new", to: "snap"}, {kind: doDelete, name: "log"}, {kind: doAppend, name: "log", data: "k"},
		{kind: doCut, name: "snap", n: 4}, {kind: doRename, name: "log", to: "snap"}, {kind: doAppend, name: "snap", data: "lmn"},
	}
	for first := range len(row) + 1 {
		for second := range len(row) + 1 {
			for keep := -1; keep < 7; keep++ {
				d, m := New(), newPlain()
				for _, n := range []int{first, second, -1} {
					list := append([]move{{kind: doOn}, {kind: doArm, n: n, keep: keep}}, row...)
					for _, v := range list {
						if got, wanted := v.onDisk(d), v.onPlain(m); got != wanted || !same(d, m) {
							t.Fatalf("behind %d and %d with %d: %d answers %d, not %d", first, second, keep, v.kind, got, wanted)
						}
					}
				}
			}
		}
	}
}
