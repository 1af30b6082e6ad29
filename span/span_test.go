package span

import (
	"math"
	"math/big"
	"math/rand"
	"slices"
	"testing"

	"tenancy/addr"
	"tenancy/api"
)

const ones = math.MaxUint64

var (
	one   = api.Addr{Lo: 1}
	top   = api.Addr{Hi: ones, Lo: ones}
	all   = api.Range{Last: top}
	whole = new(big.Int).Lsh(big.NewInt(1), 128)
)

// of is the ranges of small numbers, by their firsts and lasts in turn.
func of(ends ...uint64) []api.Range {
	var list []api.Range
	for i := 0; i < len(ends); i += 2 {
		list = append(list, api.Range{First: api.Addr{Lo: ends[i]}, Last: api.Addr{Lo: ends[i+1]}})
	}
	return list
}

func small(first uint64, last uint64) api.Range { return of(first, last)[0] }

func number(a api.Addr) *big.Int {
	n := new(big.Int).SetUint64(a.Hi)
	return n.Lsh(n, 64).Or(n, new(big.Int).SetUint64(a.Lo))
}

func address(n *big.Int) api.Addr {
	n = new(big.Int).Mod(n, whole)
	hi := new(big.Int).Rsh(n, 64)
	lo := new(big.Int).And(n, new(big.Int).SetUint64(ones))
	return api.Addr{Hi: hi.Uint64(), Lo: lo.Uint64()}
}

// unsound are lists that are no sets.
func unsound() [][]api.Range {
	return [][]api.Range{
		of(5, 4),
		{{First: top}},
		{{First: api.Addr{Hi: 1}, Last: api.Addr{Lo: ones}}},
		of(1, 3, 4, 5),                 // they touch
		of(1, 3, 3, 5),                 // they meet
		of(1, 9, 3, 5),                 // one in the other
		of(1, 3, 1, 3),                 // twice the same
		of(7, 9, 1, 3),                 // they fall
		of(3, 5, 1, 1),                 // they fall, and touch but for one
		of(1, 3, 5, 4),                 // none behind a range
		of(5, 4, 9, 9),                 // none ahead of one
		of(1, 3, 6, 5, 9, 9),           // none between two
		of(1, 3, 5, 7, 8, 9),           // the last ones touch
		of(1, 3, 4, 7, 9, 9),           // the first ones touch
		of(1, 3, 11, 12, 5, 6),         // the last one out of order
		{all, {First: one, Last: one}}, // behind the last address
		{all, {}},                      // touching it, if one goes on at 0
		{{First: one, Last: top}, {}},  // the same
		{{First: api.Addr{Lo: 9}, Last: top}, {Last: one}},    // the same
		{{First: top, Last: top}, {First: one, Last: one}},    // 2 behind it, going on at 0
		{{First: top, Last: top}, small(4, 5)},                // falling from the end
		{small(0, ones), {First: api.Addr{Hi: 1}, Last: top}}, // touching across the words
		{{Last: api.Addr{Hi: 1}}, {First: api.Addr{Hi: 1, Lo: 1}, Last: top}},
	}
}

// The windows are eight neighbours each, at both ends of all addresses, at the
// border of the two words, and somewhere.
const width = 8

func windows() []api.Addr {
	return []api.Addr{{}, one, {Lo: ones - 3}, {Hi: ones, Lo: ones - width + 1}, {Hi: 5, Lo: 1000}}
}

func at(base api.Addr, i int) api.Addr {
	a, _ := addr.Add(base, api.Addr{Lo: uint64(i)})
	return a
}

// setOf is the set of those neighbours of base whose bits stand in mask.
func setOf(base api.Addr, mask int) []api.Range {
	var list []api.Range
	for i := range width {
		if mask>>i&1 == 0 {
			continue
		}
		if i > 0 && mask>>(i-1)&1 == 1 {
			list[len(list)-1].Last = at(base, i)
		} else {
			list = append(list, api.Range{First: at(base, i), Last: at(base, i)})
		}
	}
	return list
}

func bits(first int, last int) int { return 1<<(last+1) - 1<<first }

func few(mask int) int {
	n := 0
	for ; mask > 0; mask &= mask - 1 {
		n++
	}
	return n
}

// P3.1

func TestSound(t *testing.T) {
	for _, set := range [][]api.Range{
		nil, {}, of(0, 0), of(1, 3), of(1, 3, 5, 5), of(1, 3, 5, 7, 9, 9), of(0, ones), {all},
		{{Last: api.Addr{Lo: ones}}, {First: api.Addr{Hi: 1, Lo: 1}, Last: api.Addr{Hi: 1, Lo: 1}}},
		{{}, {First: top, Last: top}}, {{First: top, Last: top}},
		{{Last: api.Addr{Hi: ones, Lo: ones - 2}}, {First: top, Last: top}},
		{{}, {First: api.Addr{Hi: 1}, Last: api.Addr{Hi: 1}}},
	} {
		if !Sound(set) {
			t.Errorf("Sound(%x) is false", set)
		}
	}
	for _, list := range unsound() {
		if Sound(list) {
			t.Errorf("Sound(%x) is true", list)
		}
	}
}

func TestSoundOfPairs(t *testing.T) {
	for _, base := range windows() {
		for n := range width * width * width * width {
			r := api.Range{First: at(base, n%8), Last: at(base, n/8%8)}
			s := api.Range{First: at(base, n/64%8), Last: at(base, n/512)}
			want := n%8 <= n/8%8 && n/8%8+2 <= n/64%8 && n/64%8 <= n/512
			if Sound([]api.Range{r, s}) != want {
				t.Fatalf("Sound of %x and %x is %v", r, s, !want)
			}
		}
	}
}

func TestPutDropLessExamples(t *testing.T) {
	for _, c := range []struct {
		name      string
		got, want []api.Range
	}{
		{"Put between", must(Put(of(1, 3, 7, 9), small(4, 5))), of(1, 5, 7, 9)},
		{"Put to join", must(Put(of(1, 5, 7, 9), small(6, 6))), of(1, 9)},
		{"Put to nothing", must(Put(nil, small(2, 2))), of(2, 2)},
		{"Put over all", must(Put(of(1, 3, 7, 9, 20, 30), small(0, 40))), of(0, 40)},
		{"Put of all", must(Put(of(1, 3, 7, 9), all)), []api.Range{all}},
		{"Put to all", must(Put([]api.Range{all}, small(3, 4))), []api.Range{all}},
		{"Put before the end", must(Put([]api.Range{{First: top, Last: top}}, api.Range{Last: api.Addr{Hi: ones, Lo: ones - 1}})), []api.Range{all}},
		{"Put at both ends", must(Put(of(0, 0), api.Range{First: top, Last: top})), []api.Range{{}, {First: top, Last: top}}},
		{"Put at the beginning", must(Put([]api.Range{{First: top, Last: top}}, small(0, 0))), []api.Range{{}, {First: top, Last: top}}},
		{"Drop within", must(Drop(of(1, 9), small(4, 6))), of(1, 3, 7, 9)},
		{"Drop over all", must(Drop(of(1, 9), small(0, 20))), nil},
		{"Drop of all", must(Drop([]api.Range{all}, all)), nil},
		{"Drop from all", must(Drop([]api.Range{all}, small(5, 5))), []api.Range{small(0, 4), {First: api.Addr{Lo: 6}, Last: top}}},
		{"Drop of the last", must(Drop([]api.Range{all}, api.Range{First: top, Last: top})), []api.Range{{Last: api.Addr{Hi: ones, Lo: ones - 1}}}},
		{"Drop of the first", must(Drop([]api.Range{all}, small(0, 0))), []api.Range{{First: one, Last: top}}},
		{"Drop from nothing", must(Drop(nil, small(0, 0))), nil},
		{"Less", must(Less(of(1, 9, 20, 25), of(3, 4, 9, 21))), of(1, 2, 5, 8, 22, 25)},
		{"Less nothing", must(Less(of(1, 9, 20, 25), nil)), of(1, 9, 20, 25)},
		{"Less of nothing", must(Less(nil, of(1, 9, 20, 25))), nil},
		{"Less itself", must(Less(of(1, 9, 20, 25), of(1, 9, 20, 25))), nil},
		{"Less holes alone", must(Less(of(1, 9, 20, 25), of(0, 0, 10, 19, 26, 30))), of(1, 9, 20, 25)},
	} {
		if !slices.Equal(c.got, c.want) {
			t.Errorf("%s: %x, not %x", c.name, c.got, c.want)
		}
	}
}

// must is the set that a call answers, and a set that none answers beside an error.
func must(set []api.Range, err api.Errno) []api.Range {
	if err != api.OK {
		return of(404, 404)
	}
	return set
}

func TestPutDropAtEachPlace(t *testing.T) {
	for _, base := range windows() {
		for mask := range 1 << width {
			set := setOf(base, mask)
			for n := range width * width {
				first, last := n%width, n/width
				if first > last {
					continue
				}
				r := api.Range{First: at(base, first), Last: at(base, last)}
				if got, err := Put(set, r); err != api.OK || !slices.Equal(got, setOf(base, mask|bits(first, last))) {
					t.Fatalf("Put(%x, %x) is %x, %d", set, r, got, err)
				}
				if got, err := Drop(set, r); err != api.OK || !slices.Equal(got, setOf(base, mask&^bits(first, last))) {
					t.Fatalf("Drop(%x, %x) is %x, %d", set, r, got, err)
				}
			}
		}
	}
}

func TestLessAtEachPlace(t *testing.T) {
	for _, base := range windows() {
		for mask := range 1 << width {
			for other := range 1 << width {
				set, out := setOf(base, mask), setOf(base, other)
				if got, err := Less(set, out); err != api.OK || !slices.Equal(got, setOf(base, mask&^other)) {
					t.Fatalf("Less(%x, %x) is %x, %d", set, out, got, err)
				}
			}
		}
	}
}

// wide is a set of up to n ranges anywhere, some of them at the ends.
func wide(n int, random *rand.Rand) []api.Range {
	list := []api.Addr{}
	for range 2 * n {
		list = append(list, api.Addr{Hi: random.Uint64(), Lo: random.Uint64()})
	}
	if random.Intn(2) == 0 {
		list = append(list, api.Addr{}, top)
	}
	slices.SortFunc(list, addr.Cmp)
	var set []api.Range
	for i := 0; i+1 < len(list); i += 2 {
		if r := (api.Range{First: list[i], Last: list[i+1]}); Sound(append(set, r)) {
			set = append(set, r)
		}
	}
	return set
}

// edges are the ends of all ranges, and their neighbours.
func edges(lists ...[]api.Range) []api.Addr {
	list := []api.Addr{{}, top}
	for _, r := range slices.Concat(lists...) {
		for _, a := range []api.Addr{r.First, r.Last} {
			before, _ := addr.Sub(a, one)
			list = append(list, before, a, at(a, 1))
		}
	}
	return list
}

func has(set []api.Range, a api.Addr) bool {
	return slices.ContainsFunc(set, func(r api.Range) bool { return addr.Cmp(r.First, a) <= 0 && addr.Cmp(a, r.Last) <= 0 })
}

func TestPutDropLessOfWideRanges(t *testing.T) {
	random := rand.New(rand.NewSource(3))
	for range 2000 {
		set, other := wide(random.Intn(9), random), wide(1+random.Intn(9), random)
		r := other[random.Intn(len(other))]
		put, dropped, less := must(Put(set, r)), must(Drop(set, r)), must(Less(set, other))
		if !Sound(put) || !Sound(dropped) || !Sound(less) {
			t.Fatalf("no sets: %x, %x, %x", put, dropped, less)
		}
		for _, a := range edges(set, other, put, dropped, less) {
			in, hit := has(set, a), has([]api.Range{r}, a)
			if has(put, a) != (in || hit) || has(dropped, a) != (in && !hit) || has(less, a) != (in && !has(other, a)) {
				t.Fatalf("%x of %x, %x, %x", a, set, r, other)
			}
		}
	}
}

func TestPutDropLessWrong(t *testing.T) {
	good, r := of(1, 3, 7, 9), small(9, 9)
	refused := func(name string, list []api.Range, got []api.Range, err api.Errno) {
		if err != api.ErrArg || len(got) > 0 {
			t.Errorf("%s of %x is %x, %d", name, list, got, err)
		}
	}
	for _, list := range unsound() {
		for _, r := range []api.Range{r, all, {}, small(100, 200), small(5, 4)} {
			got, err := Put(list, r)
			refused("Put", list, got, err)
			got, err = Drop(list, r)
			refused("Drop", list, got, err)
		}
		for _, other := range [][]api.Range{nil, good, {all}, list} {
			got, err := Less(list, other)
			refused("Less", list, got, err)
			got, err = Less(other, list)
			refused("Less by", list, got, err)
		}
	}
	for _, none := range []api.Range{small(5, 4), {First: one}, {First: top}, {First: api.Addr{Hi: 1}, Last: api.Addr{Lo: ones}}, {First: top, Last: api.Addr{Hi: ones, Lo: ones - 1}}} {
		for _, set := range [][]api.Range{nil, {}, good, {all}} {
			got, err := Put(set, none)
			refused("Put", []api.Range{none}, got, err)
			got, err = Drop(set, none)
			refused("Drop", []api.Range{none}, got, err)
		}
	}
}

// P3.2 and P3.3

func TestCountNthRankExamples(t *testing.T) {
	set := of(1, 3, 7, 9)
	if n, full := Count(set); n != (api.Addr{Lo: 6}) || full {
		t.Error("Count", n, full)
	}
	if n, full := Count([]api.Range{all}); n != (api.Addr{}) || !full {
		t.Error("Count of all", n, full)
	}
	if n, full := Count(nil); n != (api.Addr{}) || full {
		t.Error("Count of nothing", n, full)
	}
	if n, full := Count([]api.Range{{First: one, Last: top}}); n != top || full {
		t.Error("Count of all but one", n, full)
	}
	if n, full := Count([]api.Range{small(0, 4), {First: api.Addr{Lo: 6}, Last: top}}); n != top || full {
		t.Error("Count of all but one within", n, full)
	}
	if a, ok := Nth(set, api.Addr{Lo: 3}); a != (api.Addr{Lo: 7}) || !ok {
		t.Error("Nth", a, ok)
	}
	for _, n := range []api.Addr{{Lo: 6}, {Lo: 7}, {Hi: 1}, {Hi: 1, Lo: 3}, top} {
		if a, ok := Nth(set, n); a != (api.Addr{}) || ok {
			t.Error("Nth of too great a number", n, a, ok)
		}
	}
	for _, n := range []api.Addr{{}, one, {Hi: 1}, {Hi: ones}, top} {
		if a, ok := Nth([]api.Range{all}, n); a != n || !ok {
			t.Error("Nth of all", n, a, ok)
		}
		if got := Rank([]api.Range{all}, n); got != n {
			t.Error("Rank of all", n, got)
		}
		if a, ok := Nth(nil, n); a != (api.Addr{}) || ok {
			t.Error("Nth of nothing", n, a, ok)
		}
		if got := Rank(nil, n); got != (api.Addr{}) {
			t.Error("Rank of nothing", n, got)
		}
	}
	if n := Rank(set, api.Addr{Lo: 8}); n != (api.Addr{Lo: 4}) {
		t.Error("Rank", n)
	}
	if n := Rank(set, top); n != (api.Addr{Lo: 6}) {
		t.Error("Rank of the last address", n)
	}
}

func TestHasCountNthRankAtEachPlace(t *testing.T) {
	for _, base := range windows() {
		for mask := range 1 << width {
			set := setOf(base, mask)
			if n, full := Count(set); n != (api.Addr{Lo: uint64(few(mask))}) || full {
				t.Fatalf("Count(%x) is %x, %v", set, n, full)
			}
			for i := range width {
				a, below := at(base, i), api.Addr{Lo: uint64(few(mask & (1<<i - 1)))}
				in := mask>>i&1 == 1
				if Has(set, a) != in {
					t.Fatalf("Has(%x, %x) is %v", set, a, !in)
				}
				if n := Rank(set, a); n != below {
					t.Fatalf("Rank(%x, %x) is %x", set, a, n)
				}
				if got, ok := Nth(set, below); in && (got != a || !ok) {
					t.Fatalf("Nth(%x, %x) is %x, %v", set, below, got, ok)
				}
			}
			for n := few(mask); n <= width; n++ {
				if got, ok := Nth(set, api.Addr{Lo: uint64(n)}); got != (api.Addr{}) || ok {
					t.Fatalf("Nth(%x, %d) is %x, %v", set, n, got, ok)
				}
			}
		}
	}
}

// sizeBelow is how many addresses of a set are below a, and how many it has.
func sizeBelow(set []api.Range, a api.Addr) (*big.Int, *big.Int) {
	below, size := new(big.Int), new(big.Int)
	for _, r := range set {
		n := new(big.Int).Sub(number(r.Last), number(r.First))
		n.Add(n, big.NewInt(1))
		size.Add(size, n)
		part := new(big.Int).Sub(number(a), number(r.First))
		switch {
		case part.Sign() < 0:
		case part.Cmp(n) < 0:
			below.Add(below, part)
		default:
			below.Add(below, n)
		}
	}
	return below, size
}

func TestHasCountNthRankOfWideRanges(t *testing.T) {
	random := rand.New(rand.NewSource(4))
	for range 2000 {
		set := wide(random.Intn(9), random)
		_, size := sizeBelow(set, api.Addr{})
		if n, full := Count(set); n != address(size) || full != (size.Cmp(whole) == 0) {
			t.Fatalf("Count(%x) is %x, %v", set, n, full)
		}
		if a, ok := Nth(set, address(size)); size.Cmp(whole) < 0 && (ok || a != api.Addr{}) {
			t.Fatalf("Nth(%x, %x) is %x, %v", set, size, a, ok)
		}
		for _, a := range edges(set) {
			below, _ := sizeBelow(set, a)
			if Has(set, a) != has(set, a) || Rank(set, a) != address(below) {
				t.Fatalf("%x in %x: %v, %x", a, set, Has(set, a), Rank(set, a))
			}
			if got, ok := Nth(set, address(below)); has(set, a) && (got != a || !ok) {
				t.Fatalf("Nth(%x, %x) is %x, %v", set, below, got, ok)
			}
		}
	}
}

func TestHasCountNthRankWrong(t *testing.T) {
	for _, list := range unsound() {
		if n, full := Count(list); n != (api.Addr{}) || full {
			t.Errorf("Count(%x) is %x, %v", list, n, full)
		}
		for _, a := range append(edges(list), one, api.Addr{Lo: 2}, api.Addr{Lo: 8}) {
			if Has(list, a) {
				t.Errorf("Has(%x, %x) is true", list, a)
			}
			if got, ok := Nth(list, a); got != (api.Addr{}) || ok {
				t.Errorf("Nth(%x, %x) is %x, %v", list, a, got, ok)
			}
			if n := Rank(list, a); n != (api.Addr{}) {
				t.Errorf("Rank(%x, %x) is %x", list, a, n)
			}
		}
	}
}

// P3.4

// roomy is a list with spare room behind it, in which something stands.
func roomy(list []api.Range) []api.Range {
	full := append(slices.Clone(list), of(501, 502, 503, 504, 505, 506, 507, 508)...)
	return full[:len(list)]
}

func everything(list []api.Range) []api.Range { return slices.Clone(list[:cap(list)]) }

func spoil(list []api.Range) {
	for i := range list[:cap(list)] {
		list[:cap(list)][i] = small(666, 666)
	}
}

func TestNothingIsChangedOrShared(t *testing.T) {
	set, other := roomy(of(1, 3, 7, 9, 20, 30)), roomy(of(2, 2, 8, 21))
	set0, other0 := everything(set), everything(other)
	stays := func(name string) {
		if !slices.Equal(everything(set), set0) || !slices.Equal(everything(other), other0) {
			t.Fatal(name, "changed what was handed in", everything(set), everything(other))
		}
	}
	for _, r := range []api.Range{small(0, 0), small(5, 5), small(4, 6), small(1, 3), small(8, 8), small(2, 25), small(40, 50), small(31, 31), small(12, 12), all} {
		for name, call := range map[string]func() ([]api.Range, api.Errno){
			"Put":        func() ([]api.Range, api.Errno) { return Put(set, r) },
			"Drop":       func() ([]api.Range, api.Errno) { return Drop(set, r) },
			"Less":       func() ([]api.Range, api.Errno) { return Less(set, other) },
			"Less none":  func() ([]api.Range, api.Errno) { return Less(set, nil) },
			"Less apart": func() ([]api.Range, api.Errno) { return Less(set, of(100, 200)) },
			"Put none":   func() ([]api.Range, api.Errno) { return Put(set[:0], r) },
		} {
			got := must(call())
			stays(name)
			again := must(call())
			want := slices.Clone(again)
			spoil(got)
			stays(name + ", written over,")
			if !slices.Equal(again, want) {
				t.Fatal(name, "answered one memory twice")
			}
		}
	}
	Sound(set)
	Has(set, api.Addr{Lo: 8})
	Count(set)
	Nth(set, api.Addr{Lo: 4})
	Rank(set, api.Addr{Lo: 8})
	stays("a question")
}
