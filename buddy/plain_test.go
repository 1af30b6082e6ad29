package buddy

import (
	"math/big"
	"math/rand"
	"slices"
	"testing"

	"tenancy/api"
)

// A second writing of the chapter's words, on numbers of any size and without
// regard to how long it takes.

func number(a api.Addr) *big.Int {
	n := new(big.Int).SetUint64(a.Hi)
	return n.Lsh(n, 64).Or(n, new(big.Int).SetUint64(a.Lo))
}

func address(n *big.Int) api.Addr {
	hi := new(big.Int).Rsh(n, 64)
	lo := new(big.Int).And(n, new(big.Int).SetUint64(1<<64-1))
	return api.Addr{Hi: hi.Uint64(), Lo: lo.Uint64()}
}

// size is how many addresses a prefix of so many bits has.
func size(bits int) *big.Int { return new(big.Int).Lsh(big.NewInt(1), uint(128-bits)) }

func plainPrefix(p api.Prefix) bool {
	return p.Bits >= 0 && p.Bits <= 128 && new(big.Int).Mod(number(p.Addr), size(p.Bits)).Sign() == 0
}

// behind is the number behind a prefix's last address.
func behind(p api.Prefix) *big.Int { return new(big.Int).Add(number(p.Addr), size(p.Bits)) }

func plainCovers(p api.Prefix, q api.Prefix) bool {
	return plainPrefix(p) && plainPrefix(q) &&
		number(p.Addr).Cmp(number(q.Addr)) <= 0 && behind(q).Cmp(behind(p)) <= 0
}

func plainMeets(p api.Prefix, q api.Prefix) bool {
	return number(p.Addr).Cmp(behind(q)) < 0 && number(q.Addr).Cmp(behind(p)) < 0
}

func plainHalves(p api.Prefix) (api.Prefix, api.Prefix) {
	middle := new(big.Int).Add(number(p.Addr), size(p.Bits+1))
	return api.Prefix{Addr: p.Addr, Bits: p.Bits + 1}, api.Prefix{Addr: address(middle), Bits: p.Bits + 1}
}

// plainTwins is whether two prefixes, the lower one first, are both halves of one.
func plainTwins(p api.Prefix, q api.Prefix) bool {
	if p.Bits != q.Bits || p.Bits == 0 {
		return false
	}
	low, high := plainHalves(api.Prefix{Addr: p.Addr, Bits: p.Bits - 1})
	return plainPrefix(api.Prefix{Addr: p.Addr, Bits: p.Bits - 1}) && p == low && q == high
}

func plainSound(whole api.Prefix, free []api.Prefix) bool {
	if !plainPrefix(whole) {
		return false
	}
	for i, p := range free {
		if !plainCovers(whole, p) {
			return false
		}
		for _, q := range free[:i] {
			if number(q.Addr).Cmp(number(p.Addr)) >= 0 || plainMeets(p, q) || plainTwins(q, p) || plainTwins(p, q) {
				return false
			}
		}
	}
	return true
}

// plainFree is the free blocks of p when these, which are apart, are taken.
func plainFree(p api.Prefix, taken []api.Prefix) []api.Prefix {
	var met []api.Prefix
	for _, q := range taken {
		if plainCovers(q, p) {
			return nil
		}
		if plainMeets(p, q) {
			met = append(met, q)
		}
	}
	if len(met) == 0 {
		return []api.Prefix{p}
	}
	low, high := plainHalves(p)
	return append(plainFree(low, met), plainFree(high, met)...)
}

func plainTake(free []api.Prefix, bits int) ([]api.Prefix, api.Prefix, api.Errno) {
	fits := slices.DeleteFunc(slices.Clone(free), func(p api.Prefix) bool { return p.Bits > bits })
	if len(fits) == 0 {
		return nil, api.Prefix{}, api.ErrBlock
	}
	slices.SortStableFunc(fits, func(p api.Prefix, q api.Prefix) int { return q.Bits - p.Bits })
	block := fits[0]
	left := slices.DeleteFunc(slices.Clone(free), func(p api.Prefix) bool { return p == block })
	for block.Bits < bits {
		low, high := plainHalves(block)
		left = append(left, high)
		block = low
	}
	slices.SortFunc(left, func(p api.Prefix, q api.Prefix) int { return number(p.Addr).Cmp(number(q.Addr)) })
	return left, block, api.OK
}

// A world is a prefix with its 2^deep parts that have deep bits more; a set of
// these is a mask, the lowest part's bit the lowest.
type world struct {
	whole api.Prefix
	deep  int
	rows  [][]api.Prefix // the blocks, by how many bits more than the whole they have
}

func newWorld(whole api.Prefix, deep int) world {
	w := world{whole: whole, deep: deep}
	for n := range deep + 1 {
		var row []api.Prefix
		for i := range int64(1) << n {
			at := new(big.Int).Mul(size(whole.Bits+n), big.NewInt(i))
			row = append(row, api.Prefix{Addr: address(at.Add(at, number(whole.Addr))), Bits: whole.Bits + n})
		}
		w.rows = append(w.rows, row)
	}
	return w
}

// block is the block number i of those with n bits more than the whole.
func (w world) block(n int, i int) api.Prefix { return w.rows[n][i] }

// mask is the parts of that block.
func (w world) mask(n int, i int) int {
	parts := 1 << (w.deep - n)
	return (1<<parts - 1) << (i * parts)
}

// list is the free blocks of a set: the greatest ones that have all their parts
// in it.
func (w world) list(set int, n int, i int) []api.Prefix {
	switch here := w.mask(n, i); {
	case set&here == here:
		return []api.Prefix{w.block(n, i)}
	case set&here == 0:
		return nil
	}
	return append(w.list(set, n+1, 2*i), w.list(set, n+1, 2*i+1)...)
}

func (w world) free(set int) []api.Prefix { return w.list(set, 0, 0) }

// each calls do with all blocks and their masks.
func (w world) each(do func(block api.Prefix, mask int)) {
	for n := range w.deep + 1 {
		for i := range 1 << n {
			do(w.block(n, i), w.mask(n, i))
		}
	}
}

// rest is all parts that aren't in a set.
func (w world) rest(set int) int { return w.mask(0, 0) &^ set }

const ones = 1<<64 - 1

// worlds are at both ends of all addresses, at and across the border of the two
// words, of all addresses, and of a usual prefix.
func worlds() []world {
	var list []world
	for _, w := range []api.Prefix{
		{},
		{Bits: 1},
		{Addr: api.Addr{Hi: 1 << 63}, Bits: 1},
		{Addr: api.Addr{Hi: 0x20010db8 << 32}, Bits: 48},
		{Addr: api.Addr{Hi: 0x20010db8 << 32}, Bits: 61},
		{Addr: api.Addr{Hi: ones - 1}, Bits: 63},
		{Addr: api.Addr{Hi: ones}, Bits: 64},
		{Addr: api.Addr{Hi: 7, Lo: 1 << 63}, Bits: 65},
		{Addr: api.Addr{Lo: 0xc0a80100}, Bits: 120},
		{Bits: 125},
		{Addr: api.Addr{Hi: ones, Lo: ones - 7}, Bits: 125},
	} {
		list = append(list, newWorld(w, 3))
	}
	return append(list, newWorld(api.Prefix{Addr: api.Addr{Lo: 8}, Bits: 128}, 0),
		newWorld(api.Prefix{Addr: api.Addr{Hi: ones, Lo: ones - 1}, Bits: 127}, 1))
}

// eachSet calls do with all sets of the parts of all worlds, and with many of
// one that has parts enough for blocks of five sizes.
func eachSet(do func(w world, set int, free []api.Prefix)) {
	wide := newWorld(api.Prefix{Addr: api.Addr{Hi: 0x20010db8 << 32}, Bits: 62}, 4)
	for _, w := range worlds() {
		for set := range w.mask(0, 0) + 1 {
			do(w, set, w.free(set))
		}
	}
	for set := 0; set <= wide.mask(0, 0); set += 7 {
		do(wide, set, wide.free(set))
	}
}

// P11.1

func TestSoundOfAllSets(t *testing.T) {
	eachSet(func(w world, set int, free []api.Prefix) {
		if !Sound(w.whole, free) {
			t.Errorf("Sound(%x, %x) is false", w.whole, free)
		}
	})
}

// eachList calls do with all lists of up to n of these.
func eachList(of []api.Prefix, n int, list []api.Prefix, do func(list []api.Prefix)) {
	do(list)
	if n == 0 {
		return
	}
	for _, p := range of {
		eachList(of, n-1, append(slices.Clip(list), p), do)
	}
}

func TestSoundOfAllLists(t *testing.T) {
	for _, w := range worlds() {
		w.deep = min(w.deep, 2)
		var some []api.Prefix
		w.each(func(block api.Prefix, mask int) { some = append(some, block) })
		some = append(some, outside(w.whole)...)
		eachList(some, 4, nil, func(list []api.Prefix) {
			if got, want := Sound(w.whole, list), plainSound(w.whole, list); got != want {
				t.Errorf("Sound(%x, %x) is %v", w.whole, list, got)
			}
		})
	}
}

// P11.2

func TestTakeOfAllSets(t *testing.T) {
	eachSet(func(w world, set int, free []api.Prefix) {
		for bits := w.whole.Bits; bits <= min(w.whole.Bits+w.deep+2, 128); bits++ {
			want, block, code := plainTake(free, bits)
			left, got, err := Take(w.whole, free, bits)
			if !slices.Equal(left, want) || got != block || err != code {
				t.Errorf("Take(%x, %x, %d) is %x, %x, %d", w.whole, free, bits, left, got, err)
			}
		}
	})
}

// What Take answers is what Reserve leaves without that block, and Give of it
// brings back what was.
func TestTakeAgainstReserve(t *testing.T) {
	eachSet(func(w world, set int, free []api.Prefix) {
		for bits := w.whole.Bits; bits <= min(w.whole.Bits+w.deep+1, 128); bits++ {
			left, block, err := Take(w.whole, free, bits)
			if fits := Fits(free, bits); fits != (err == api.OK) {
				t.Errorf("Take(%x, %x, %d) is %d, Fits %v", w.whole, free, bits, err, fits)
			}
			if err != api.OK {
				continue
			}
			without, err := Reserve(w.whole, free, block)
			if err != api.OK || !slices.Equal(left, without) || !Sound(w.whole, left) {
				t.Errorf("Take(%x, %x, %d) is %x, Reserve %x, %d", w.whole, free, bits, left, without, err)
			}
			back, err := Give(w.whole, left, block)
			if err != api.OK || !slices.Equal(back, free) {
				t.Errorf("Give(%x, %x, %x) is %x, %d", w.whole, left, block, back, err)
			}
		}
	})
}

// P11.3

func TestReserveOfAllSets(t *testing.T) {
	eachSet(func(w world, set int, free []api.Prefix) {
		w.each(func(block api.Prefix, mask int) {
			want, code := w.free(set&^mask), api.OK
			if set&mask != mask {
				want, code = nil, api.ErrBlock
			}
			if got, err := Reserve(w.whole, free, block); !slices.Equal(got, want) || err != code {
				t.Errorf("Reserve(%x, %x, %x) is %x, %d", w.whole, free, block, got, err)
			}
		})
	})
}

func TestGiveOfAllSets(t *testing.T) {
	eachSet(func(w world, set int, free []api.Prefix) {
		w.each(func(block api.Prefix, mask int) {
			want, code := w.free(set|mask), api.OK
			if set&mask != 0 {
				want, code = nil, api.ErrBlock
			}
			if got, err := Give(w.whole, free, block); !slices.Equal(got, want) || err != code {
				t.Errorf("Give(%x, %x, %x) is %x, %d", w.whole, free, block, got, err)
			}
		})
	})
}

// P11.4

func TestFreeOfAllSets(t *testing.T) {
	random := rand.New(rand.NewSource(11))
	shuffle := func(list []api.Prefix) []api.Prefix {
		random.Shuffle(len(list), func(i int, j int) { list[i], list[j] = list[j], list[i] })
		return list
	}
	eachSet(func(w world, set int, free []api.Prefix) {
		var parts []api.Prefix
		for i := range 1 << w.deep {
			if w.rest(set)>>i&1 == 1 {
				parts = append(parts, w.block(w.deep, i))
			}
		}
		for _, taken := range [][]api.Prefix{parts, shuffle(slices.Clone(parts)), shuffle(w.free(w.rest(set)))} {
			if got, err := Free(w.whole, taken); !slices.Equal(got, free) || err != api.OK {
				t.Errorf("Free(%x, %x) is %x, %d", w.whole, taken, got, err)
			}
		}
	})
}

func TestFreeOfAllLists(t *testing.T) {
	for _, w := range worlds() {
		var some []api.Prefix
		w.each(func(block api.Prefix, mask int) { some = append(some, block) })
		some = append(some, outside(w.whole)...)
		eachList(some, 3, nil, func(list []api.Prefix) {
			want, code := plainErrors(w.whole, list)
			if code == api.OK {
				want = plainFree(w.whole, list)
			}
			if got, err := Free(w.whole, list); !slices.Equal(got, want) || err != code {
				t.Errorf("Free(%x, %x) is %x, %d", w.whole, list, got, err)
			}
		})
	}
}

func plainErrors(whole api.Prefix, taken []api.Prefix) ([]api.Prefix, api.Errno) {
	for _, p := range taken {
		if !plainCovers(whole, p) {
			return nil, api.ErrArg
		}
	}
	for i, p := range taken {
		for _, q := range taken[:i] {
			if plainMeets(p, q) {
				return nil, api.ErrBlock
			}
		}
	}
	return nil, api.OK
}

// All of them, in long walks

// A walk is a prefix with what is free of it and what was taken.
type walk struct {
	*testing.T
	whole api.Prefix
	free  []api.Prefix
	taken []api.Prefix
}

func someBlock(random *rand.Rand, whole api.Prefix) api.Prefix {
	n := random.Intn(min(128-whole.Bits, 1+random.Intn(128)) + 1)
	at := new(big.Int).Rand(random, new(big.Int).Lsh(big.NewInt(1), uint(n)))
	at.Mul(at, size(whole.Bits+n)).Add(at, number(whole.Addr))
	return api.Prefix{Addr: address(at), Bits: whole.Bits + n}
}

func (w *walk) isTaken(block api.Prefix) bool {
	return slices.ContainsFunc(w.taken, func(p api.Prefix) bool { return plainMeets(p, block) })
}

func (w *walk) take(random *rand.Rand) {
	bits := someBlock(random, w.whole).Bits
	want, block, code := plainTake(w.free, bits)
	left, got, err := Take(w.whole, w.free, bits)
	if !slices.Equal(left, want) || got != block || err != code {
		w.Fatalf("Take(%x, %x, %d) is %x, %x, %d", w.whole, w.free, bits, left, got, err)
	}
	if err == api.OK {
		w.free, w.taken = left, append(w.taken, got)
	}
}

func (w *walk) reserve(random *rand.Rand) {
	block := someBlock(random, w.whole)
	left, err := Reserve(w.whole, w.free, block)
	if isFree := !w.isTaken(block); isFree != (err == api.OK) || !isFree && err != api.ErrBlock {
		w.Fatalf("Reserve(%x, %x, %x) is %x, %d", w.whole, w.free, block, left, err)
	}
	if err == api.OK {
		w.free, w.taken = left, append(w.taken, block)
	}
}

func (w *walk) give(random *rand.Rand) {
	if len(w.taken) == 0 {
		return
	}
	i := random.Intn(len(w.taken))
	block := w.taken[i]
	if bits := someBlock(random, block).Bits; random.Intn(4) == 0 && bits > block.Bits {
		// Only a part is given back; the rest stays, as blocks of their own.
		part := api.Prefix{Addr: block.Addr, Bits: bits}
		w.taken = append(w.taken, plainFree(block, []api.Prefix{part})...)
		block = part
	}
	got, err := Give(w.whole, w.free, block)
	if err != api.OK {
		w.Fatalf("Give(%x, %x, %x) is %x, %d", w.whole, w.free, block, got, err)
	}
	w.free, w.taken = got, slices.Delete(w.taken, i, i+1)
}

func (w *walk) check() {
	want := plainFree(w.whole, w.taken)
	if !slices.Equal(w.free, want) {
		w.Fatalf("of %x without %x is %x, not %x", w.whole, w.taken, w.free, want)
	}
	if got, err := Free(w.whole, w.taken); err != api.OK || !slices.Equal(got, want) {
		w.Fatalf("Free(%x, %x) is %x, %d", w.whole, w.taken, got, err)
	}
	if !Sound(w.whole, w.free) {
		w.Fatalf("Sound(%x, %x) is false", w.whole, w.free)
	}
	for _, p := range w.free[:min(len(w.free), 5)] {
		if _, err := Give(w.whole, w.free, p); err != api.ErrBlock {
			w.Fatalf("Give(%x, %x, %x) is %d", w.whole, w.free, p, err)
		}
	}
}

func TestWalks(t *testing.T) {
	random := rand.New(rand.NewSource(1))
	for n := range 24 {
		whole := someBlock(random, api.Prefix{})
		if n%3 == 0 {
			_, whole = plainHalves(api.Prefix{Addr: api.Addr{Hi: 0xffffffff << 32}, Bits: 32 + random.Intn(95)})
		}
		w := &walk{T: t, whole: whole, free: []api.Prefix{whole}}
		for i := range 60 {
			switch random.Intn(5) {
			case 0, 1:
				w.take(random)
			case 2:
				w.reserve(random)
			default:
				w.give(random)
			}
			if i%6 == 5 {
				w.check()
			}
		}
	}
}
