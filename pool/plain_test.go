package pool

import (
	"math/big"
	"math/rand"
	"slices"
	"testing"

	"tenancy/api"
)

// A second writing of the chapter's words, on numbers of any size and without
// regard to how long it takes.

var every = new(big.Int).Lsh(big.NewInt(1), 128)

func number(a api.Addr) *big.Int {
	n := new(big.Int).SetUint64(a.Hi)
	return n.Lsh(n, 64).Or(n, new(big.Int).SetUint64(a.Lo))
}

// address is n modulo 2^128.
func address(n *big.Int) api.Addr {
	n = new(big.Int).Mod(n, every)
	hi := new(big.Int).Rsh(n, 64)
	lo := new(big.Int).And(n, new(big.Int).SetUint64(ones))
	return api.Addr{Hi: hi.Uint64(), Lo: lo.Uint64()}
}

// at is the address i behind base.
func at(base api.Addr, i int) api.Addr {
	return address(new(big.Int).Add(number(base), big.NewInt(int64(i))))
}

func plainRange(r api.Range) bool { return number(r.First).Cmp(number(r.Last)) <= 0 }

func plainSet(list []api.Range) bool {
	for i, r := range list {
		if !plainRange(r) {
			return false
		}
		if i > 0 && new(big.Int).Sub(number(r.First), number(list[i-1].Last)).Cmp(big.NewInt(2)) < 0 {
			return false
		}
	}
	return true
}

func plainHas(list []api.Range, a api.Addr) bool {
	n := number(a)
	return slices.ContainsFunc(list, func(r api.Range) bool { return number(r.First).Cmp(n) <= 0 && n.Cmp(number(r.Last)) <= 0 })
}

// plainSize is how many addresses a set has.
func plainSize(set []api.Range) *big.Int {
	sum := new(big.Int)
	for _, r := range set {
		sum.Add(sum, new(big.Int).Sub(number(r.Last), number(r.First)))
		sum.Add(sum, big.NewInt(1))
	}
	return sum
}

// plainPick goes over the ranges of a set that has addresses.
func plainPick(set []api.Range, draw uint64) api.Addr {
	n := new(big.Int).SetUint64(draw)
	n.Mod(n, plainSize(set))
	for _, r := range set {
		size := plainSize([]api.Range{r})
		if n.Cmp(size) < 0 {
			return address(n.Add(n, number(r.First)))
		}
		n.Sub(n, size)
	}
	panic("more than the set has")
}

func plainOwn(list []api.Lease, kind int) []api.Addr {
	var own []api.Addr
	for _, l := range list {
		i := 0
		for i < len(own) && number(own[i]).Cmp(number(l.What.Addr)) < 0 {
			i++
		}
		if l.Kind == kind && (i == len(own) || own[i] != l.What.Addr) {
			own = slices.Insert(own, i, l.What.Addr)
		}
	}
	return own
}

// The windows are eight neighbours each: at both ends of all addresses, at the
// border of the two words, at that of DHCPv4's addresses, and somewhere.
const width = 8

func windows() []api.Addr {
	return []api.Addr{{}, {Lo: 1}, {Lo: ones - 3}, {Hi: ones, Lo: ones - width + 1}, {Lo: 1<<32 - 4}, {Hi: 5, Lo: 1000}}
}

// setOf is the set of those neighbours of base whose bits stand in mask.
func setOf(base api.Addr, mask int) []api.Range {
	var list []api.Range
	for i := range width {
		switch {
		case mask>>i&1 == 0:
		case i > 0 && mask>>(i-1)&1 == 1:
			list[len(list)-1].Last = at(base, i)
		default:
			list = append(list, api.Range{First: at(base, i), Last: at(base, i)})
		}
	}
	return list
}

// membersOf is the same as a list of addresses.
func membersOf(base api.Addr, mask int) []api.Addr {
	var list []api.Addr
	for i := range width {
		if mask>>i&1 == 1 {
			list = append(list, at(base, i))
		}
	}
	return list
}

// A part is a range among a window's neighbours, with the mask of those it has.
type part struct {
	r    api.Range
	mask int
}

func partsOf(base api.Addr) []part {
	var list []part
	for first := range width {
		for last := first; last < width; last++ {
			list = append(list, part{api.Range{First: at(base, first), Last: at(base, last)}, 1<<(last+1) - 1<<first})
		}
	}
	return list
}

// shuffled is the list in any order, some of its elements more than once.
func shuffled[E any](list []E, random *rand.Rand) []E {
	more := slices.Clone(list)
	for range list {
		if random.Intn(2) == 0 {
			more = append(more, list[random.Intn(len(list))])
		}
	}
	random.Shuffle(len(more), func(i, j int) { more[i], more[j] = more[j], more[i] })
	return more
}

// anywhere is an address, now and then one at an end or at the words' border.
func anywhere(random *rand.Rand) api.Addr {
	a := api.Addr{Hi: random.Uint64(), Lo: random.Uint64()}
	switch random.Intn(8) {
	case 0:
		return api.Addr{Lo: uint64(random.Intn(3))}
	case 1:
		return api.Addr{Hi: ones, Lo: ones - uint64(random.Intn(3))}
	case 2:
		a.Lo = 0
	case 3:
		a.Lo = ones
	}
	return a
}

// wide is up to n ranges anywhere, in any order, some touching or meeting others.
func wide(n int, random *rand.Rand) []api.Range {
	var list []api.Range
	for range random.Intn(n + 1) {
		a, b := anywhere(random), anywhere(random)
		if len(list) > 0 && random.Intn(3) == 0 {
			a = at(list[random.Intn(len(list))].Last, random.Intn(4)-1)
		}
		if number(a).Cmp(number(b)) > 0 {
			a, b = b, a
		}
		list = append(list, api.Range{First: a, Last: b})
	}
	return list
}

// edges are the ends of all ranges, and their neighbours.
func edges(lists ...[]api.Range) []api.Addr {
	list := []api.Addr{{}, top}
	for _, r := range slices.Concat(lists...) {
		for i := -2; i <= 2; i++ {
			list = append(list, at(r.First, i), at(r.Last, i))
		}
	}
	return list
}

// P12.1

func TestBuildAtEachPlace(t *testing.T) {
	random := rand.New(rand.NewSource(12))
	for _, base := range windows() {
		parts := partsOf(base)
		for _, p := range parts {
			for _, q := range parts {
				for range 20 {
					out := random.Intn(1 << width)
					checkBuild(t, base, []part{p, q}, out, shuffled(membersOf(base, out), random))
				}
				checkBuild(t, base, []part{p, q}, 0, nil)
			}
		}
	}
}

func TestBuildOfMoreRanges(t *testing.T) {
	random := rand.New(rand.NewSource(13))
	for _, base := range windows() {
		parts := partsOf(base)
		for range 20000 {
			some := make([]part, random.Intn(7))
			for i := range some {
				some[i] = parts[random.Intn(len(parts))]
			}
			out := random.Intn(1<<width) & random.Intn(1<<width)
			checkBuild(t, base, some, out, shuffled(membersOf(base, out), random))
		}
	}
}

func checkBuild(t *testing.T, base api.Addr, some []part, mask int, out []api.Addr) {
	t.Helper()
	pools, all := make([]api.Range, len(some)), 0
	for i, p := range some {
		pools[i] = p.r
		all |= p.mask
	}
	if got, err := Build(pools, out); err != api.OK || !slices.Equal(got, setOf(base, all&^mask)) {
		t.Fatalf("Build(%x, %x) is %x, %d", pools, out, got, err)
	}
}

func TestBuildAndFreeOfWideRanges(t *testing.T) {
	random := rand.New(rand.NewSource(14))
	for range 1500 {
		pools := wide(8, random)
		out := edges(pools)
		random.Shuffle(len(out), func(i, j int) { out[i], out[j] = out[j], out[i] })
		taken := out[:random.Intn(len(out)+1)]
		out = taken[:random.Intn(len(taken)+1)]
		set, err := Build(pools, out)
		if err != api.OK || !plainSet(set) {
			t.Fatalf("Build(%x, %x) is %x, %d", pools, out, set, err)
		}
		left, err := Free(set, taken)
		if err != api.OK || !plainSet(left) {
			t.Fatalf("Free(%x, %x) is %x, %d", set, taken, left, err)
		}
		for _, a := range edges(pools, set, left) {
			in := plainHas(pools, a) && !slices.Contains(out, a)
			if plainHas(set, a) != in {
				t.Fatalf("%x in Build(%x, %x), which is %x", a, pools, out, set)
			}
			if plainHas(left, a) != (in && !slices.Contains(taken, a)) {
				t.Fatalf("%x in Free(%x, %x), which is %x", a, set, taken, left)
			}
		}
	}
}

// P12.2

func TestFreeAtEachPlace(t *testing.T) {
	random := rand.New(rand.NewSource(15))
	for _, base := range windows() {
		for mask := range 1 << width {
			set := setOf(base, mask)
			for other := range 1 << width {
				taken := shuffled(membersOf(base, other), random)
				if got, err := Free(set, taken); err != api.OK || !slices.Equal(got, setOf(base, mask&^other)) {
					t.Fatalf("Free(%x, %x) is %x, %d", set, taken, got, err)
				}
			}
		}
	}
}

// P12.1 to P12.3, with lists of ranges that may be none and sets that aren't.

func TestAllShortRawLists(t *testing.T) {
	ends := []api.Addr{{}, {Lo: 1}, {Lo: 2}, {Lo: ones}, {Hi: 1}, {Hi: ones, Lo: ones - 1}, top}
	var raw []api.Range
	for _, a := range ends {
		for _, b := range ends {
			raw = append(raw, api.Range{First: a, Last: b})
		}
	}
	check := func(list []api.Range) {
		for _, out := range [][]api.Addr{nil, {{Lo: 1}}, {top, {}, {Lo: ones}}} {
			got, err := Build(list, out)
			checkRaw(t, "Build", list, out, got, err, !slices.ContainsFunc(list, func(r api.Range) bool { return !plainRange(r) }))
			got, err = Free(list, out)
			checkRaw(t, "Free", list, out, got, err, plainSet(list))
		}
		for _, draw := range []uint64{0, 1, 5, ones} {
			checkPick(t, list, draw)
		}
	}
	check(nil)
	for _, r := range raw {
		check([]api.Range{r})
		for _, s := range raw {
			check([]api.Range{r, s})
		}
	}
}

func checkRaw(t *testing.T, name string, list []api.Range, out []api.Addr, got []api.Range, err api.Errno, good bool) {
	t.Helper()
	if !good {
		if err != api.ErrArg || len(got) > 0 {
			t.Fatalf("%s(%x, %x) is %x, %d", name, list, out, got, err)
		}
		return
	}
	if err != api.OK || !plainSet(got) {
		t.Fatalf("%s(%x, %x) is %x, %d", name, list, out, got, err)
	}
	for _, a := range edges(list, got) {
		if plainHas(got, a) != (plainHas(list, a) && !slices.Contains(out, a)) {
			t.Fatalf("%x in %s(%x, %x), which is %x", a, name, list, out, got)
		}
	}
}

// P12.3

func checkPick(t *testing.T, list []api.Range, draw uint64) {
	t.Helper()
	a, ok := Pick(list, draw)
	if !plainSet(list) || len(list) == 0 {
		if ok || a != (api.Addr{}) {
			t.Fatalf("Pick(%x, %d) is %x, %v", list, draw, a, ok)
		}
		return
	}
	if want := plainPick(list, draw); !ok || a != want {
		t.Fatalf("Pick(%x, %d) is %x, %v, not %x", list, draw, a, ok, want)
	}
}

func TestPickAtEachPlace(t *testing.T) {
	for _, base := range windows() {
		for mask := range 1 << width {
			members := membersOf(base, mask)
			for i := range 3 * len(members) {
				a, ok := Pick(setOf(base, mask), uint64(i))
				if want := members[i%len(members)]; !ok || a != want {
					t.Fatalf("Pick(%x, %d) is %x, %v", setOf(base, mask), i, a, ok)
				}
			}
			for i := range uint64(20) {
				checkPick(t, setOf(base, mask), ones-i)
				checkPick(t, setOf(base, mask), 1<<63-10+i)
				checkPick(t, setOf(base, mask), 1<<32-10+i)
			}
		}
	}
}

func TestPickOfWideSets(t *testing.T) {
	random := rand.New(rand.NewSource(16))
	for range 20000 {
		set, err := Build(wide(6, random), []api.Addr{anywhere(random), anywhere(random)})
		if err != api.OK {
			t.Fatal(err)
		}
		checkPick(t, set, random.Uint64()>>random.Intn(64))
		checkPick(t, set, anywhere(random).Lo)
	}
}

// P12.4

func TestOwnOfAnyLeases(t *testing.T) {
	random := rand.New(rand.NewSource(17))
	for range 5000 {
		list := make([]api.Lease, random.Intn(30))
		for i := range list {
			list[i].Kind = random.Intn(7) - 1
			list[i].What.Addr = api.Addr{Hi: uint64(random.Intn(3)), Lo: uint64(random.Intn(3))}
			if random.Intn(4) == 0 {
				list[i].What.Addr = anywhere(random)
			}
			list[i].What.Bits = random.Intn(200) - 30
			list[i].State = random.Intn(5) - 1
			list[i].Client = []string{"", "a", "b"}[random.Intn(3)]
			list[i].Iaid = uint32(random.Intn(3))
			list[i].Until = random.Int() - random.Int()
		}
		for kind := -1; kind < 7; kind++ {
			if got, want := Own(list, kind), plainOwn(list, kind); !slices.Equal(got, want) {
				t.Fatalf("Own(%x, %d) is %x, not %x", list, kind, got, want)
			}
		}
	}
}
