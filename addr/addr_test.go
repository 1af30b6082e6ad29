package addr

import (
	"math"
	"math/big"
	"testing"

	"tenancy/api"
)

const ones = math.MaxUint64

var (
	zero  = api.Addr{}
	one   = api.Addr{Lo: 1}
	top   = api.Addr{Hi: ones, Lo: ones}
	whole = new(big.Int).Lsh(big.NewInt(1), 128)
)

// samples are the ends of the words and of the numbers, and some between.
func samples() []api.Addr {
	words := []uint64{0, 1, 2, 3, 7, 10, 1<<31 - 1, 1 << 31, 1<<32 - 1, 1 << 32, 1<<32 + 1, 0x5555555555555555, 0xdeadbeefcafef00d, 1<<63 - 1, 1 << 63, 1<<63 + 1, ones - 1, ones}
	var list []api.Addr
	for _, hi := range words {
		for _, lo := range words {
			list = append(list, api.Addr{Hi: hi, Lo: lo})
		}
	}
	return list
}

func shifts() []int {
	list := []int{math.MinInt, -129, -128, -64, -1, 129, 191, 192, 200, 256, 1 << 32, math.MaxInt}
	for n := range 129 {
		list = append(list, n)
	}
	return list
}

func number(a api.Addr) *big.Int {
	n := new(big.Int).SetUint64(a.Hi)
	return n.Lsh(n, 64).Or(n, new(big.Int).SetUint64(a.Lo))
}

// address is n modulo 2^128.
func address(n *big.Int) api.Addr {
	n = new(big.Int).Mod(n, whole)
	hi := new(big.Int).Rsh(n, 64)
	lo := new(big.Int).And(n, new(big.Int).SetUint64(ones))
	return api.Addr{Hi: hi.Uint64(), Lo: lo.Uint64()}
}

// P1.1

func TestCmpAddSubExamples(t *testing.T) {
	if x, over := Add(api.Addr{Lo: ones}, one); x != (api.Addr{Hi: 1}) || over {
		t.Error("a carry within", x, over)
	}
	if x, over := Add(top, one); x != zero || !over {
		t.Error("a carry at the end", x, over)
	}
	if x, over := Add(top, top); x != (api.Addr{Hi: ones, Lo: ones - 1}) || !over {
		t.Error("both at the end", x, over)
	}
	if x, under := Sub(zero, one); x != top || !under {
		t.Error("below 0", x, under)
	}
	if x, under := Sub(api.Addr{Hi: 1}, one); x != (api.Addr{Lo: ones}) || under {
		t.Error("a borrow within", x, under)
	}
	if Cmp(api.Addr{Hi: 1}, api.Addr{Lo: ones}) != 1 || Cmp(api.Addr{Lo: ones}, api.Addr{Hi: 1}) != -1 {
		t.Error("the higher word goes first")
	}
}

func TestCmpAddSub(t *testing.T) {
	for _, a := range samples() {
		for _, b := range samples() {
			x, y := number(a), number(b)
			if got, want := Cmp(a, b), x.Cmp(y); got != want {
				t.Fatalf("Cmp(%x, %x) is %d, not %d", a, b, got, want)
			}
			sum := new(big.Int).Add(x, y)
			if got, over := Add(a, b); got != address(sum) || over != (sum.Cmp(whole) >= 0) {
				t.Fatalf("Add(%x, %x) is %x, %v", a, b, got, over)
			}
			rest := new(big.Int).Sub(x, y)
			if got, under := Sub(a, b); got != address(rest) || under != (rest.Sign() < 0) {
				t.Fatalf("Sub(%x, %x) is %x, %v", a, b, got, under)
			}
		}
	}
}

// P1.2

func TestUpDownExamples(t *testing.T) {
	for _, c := range []struct{ got, want api.Addr }{
		{Up(one, 64), api.Addr{Hi: 1}},
		{Up(one, 127), api.Addr{Hi: 1 << 63}},
		{Up(one, 128), zero},
		{Up(top, math.MaxInt), zero},
		{Up(api.Addr{Lo: 3}, -1), api.Addr{Lo: 3}},
		{Up(top, math.MinInt), top},
		{Down(api.Addr{Hi: 1}, 1), api.Addr{Lo: 1 << 63}},
		{Down(top, 127), one},
		{Down(top, 128), zero},
		{Down(top, math.MaxInt), zero},
		{Down(top, -1), top},
		{Down(top, math.MinInt), top},
	} {
		if c.got != c.want {
			t.Errorf("%x, not %x", c.got, c.want)
		}
	}
}

func TestUpDown(t *testing.T) {
	for _, a := range samples() {
		for _, n := range shifts() {
			by := uint(min(max(n, 0), 128))
			if got, want := Up(a, n), address(new(big.Int).Lsh(number(a), by)); got != want {
				t.Fatalf("Up(%x, %d) is %x, not %x", a, n, got, want)
			}
			if got, want := Down(a, n), address(new(big.Int).Rsh(number(a), by)); got != want {
				t.Fatalf("Down(%x, %d) is %x, not %x", a, n, got, want)
			}
		}
	}
}

func TestMod(t *testing.T) {
	if got, ok := Mod(api.Addr{Hi: 1}, api.Addr{Lo: 7}); got != (api.Addr{Lo: 2}) || !ok {
		t.Error("2^64 modulo 7", got, ok)
	}
	for _, a := range samples() {
		for _, b := range samples() {
			got, ok := Mod(a, b)
			if b == zero {
				if got != zero || ok {
					t.Fatalf("Mod(%x, 0) is %x, %v", a, got, ok)
				}
				continue
			}
			if want := address(new(big.Int).Mod(number(a), number(b))); got != want || !ok {
				t.Fatalf("Mod(%x, %x) is %x, %v, not %x", a, b, got, ok, want)
			}
		}
	}
}

// P1.3

func TestOf4To4(t *testing.T) {
	for _, n := range []uint32{0, 1, 0xc0a80105, 1 << 31, math.MaxUint32} {
		a := Of4(n)
		if a != (api.Addr{Lo: uint64(n)}) {
			t.Errorf("Of4(%x) is %x", n, a)
		}
		if back, ok := To4(a); back != n || !ok {
			t.Errorf("To4(%x) is %x, %v", a, back, ok)
		}
	}
	for _, a := range []api.Addr{{Lo: 1 << 32}, {Lo: 1<<32 + 5}, {Lo: ones}, {Hi: 1}, {Hi: 1, Lo: 5}, {Hi: 1 << 63}, top} {
		if n, ok := To4(a); n != 0 || ok {
			t.Errorf("To4(%x) is %x, %v", a, n, ok)
		}
	}
}

// P1.4

func TestClipSoundExamples(t *testing.T) {
	host := api.Addr{Lo: 0xc0a80105}
	net := api.Prefix{Addr: api.Addr{Lo: 0xc0a80100}, Bits: 120}
	if p, ok := Clip(host, 120); p != net || !ok {
		t.Error("Clip", p, ok)
	}
	if !Sound(net) || Sound(api.Prefix{Addr: host, Bits: 120}) {
		t.Error("Sound")
	}
	if !Sound(api.Prefix{}) || !Sound(api.Prefix{Addr: top, Bits: 128}) || Sound(api.Prefix{Addr: top, Bits: 127}) || Sound(api.Prefix{Addr: one}) {
		t.Error("Sound at the ends")
	}
	for _, bits := range []int{math.MinInt, -1, 129, math.MaxInt} {
		for _, a := range []api.Addr{zero, host, top} {
			if p, ok := Clip(a, bits); p != (api.Prefix{}) || ok {
				t.Error("Clip to", bits, "bits", p, ok)
			}
			if Sound(api.Prefix{Addr: a, Bits: bits}) {
				t.Error("sound with", bits, "bits")
			}
		}
	}
}

func TestClipSound(t *testing.T) {
	for _, a := range samples() {
		for bits := range 129 {
			free := uint(128 - bits)
			n := number(a)
			first := address(n.Lsh(n.Rsh(n, free), free))
			if p, ok := Clip(a, bits); p != (api.Prefix{Addr: first, Bits: bits}) || !ok {
				t.Fatalf("Clip(%x, %d) is %x, %v", a, bits, p, ok)
			}
			if got, want := Sound(api.Prefix{Addr: a, Bits: bits}), first == a; got != want {
				t.Fatalf("Sound of %x with %d bits is %v", a, bits, got)
			}
		}
	}
}

// P1.5

// unsound are no prefixes.
func unsound() []api.Prefix {
	return []api.Prefix{
		{Bits: -1}, {Bits: 129}, {Bits: math.MinInt}, {Bits: math.MaxInt},
		{Addr: top, Bits: -1}, {Addr: top, Bits: 129}, {Addr: top, Bits: 127}, {Addr: top},
		{Addr: api.Addr{Lo: 0xc0a80105}, Bits: 120}, {Addr: one, Bits: 0}, {Addr: api.Addr{Hi: 1}, Bits: 63},
	}
}

// prefixes are sound ones of all kinds of lengths.
func prefixes() []api.Prefix {
	var list []api.Prefix
	for _, a := range []api.Addr{zero, one, {Lo: 0xc0a80105}, {Lo: ones}, {Hi: 1}, {Hi: 0x20010db8 << 32, Lo: 0xff}, {Hi: 1 << 63}, top} {
		for _, bits := range []int{0, 1, 2, 31, 32, 62, 63, 64, 65, 96, 120, 121, 126, 127, 128} {
			p, _ := Clip(a, bits)
			list = append(list, p)
		}
	}
	return list
}

func within(r api.Range, a api.Addr) bool {
	n := number(a)
	return number(r.First).Cmp(n) <= 0 && n.Cmp(number(r.Last)) <= 0
}

func TestSpan(t *testing.T) {
	for _, p := range prefixes() {
		size := new(big.Int).Lsh(big.NewInt(1), uint(128-p.Bits))
		last := address(size.Add(size, number(p.Addr)).Sub(size, big.NewInt(1)))
		if got := Span(p); got != (api.Range{First: p.Addr, Last: last}) {
			t.Errorf("Span(%x) is %x", p, got)
		}
	}
	for _, p := range unsound() {
		if got := Span(p); got != (api.Range{}) {
			t.Errorf("Span(%x) is %x", p, got)
		}
	}
	if got := Span(api.Prefix{}); got != (api.Range{Last: top}) {
		t.Error("Span of all addresses", got)
	}
}

func TestHas(t *testing.T) {
	for _, p := range prefixes() {
		r := Span(p)
		before, _ := Sub(r.First, one)
		behind, _ := Add(r.Last, one)
		list := append(samples(), r.First, r.Last, before, behind)
		for _, a := range list {
			if got, want := Has(p, a), within(r, a); got != want {
				t.Fatalf("Has(%x, %x) is %v", p, a, got)
			}
		}
	}
	for _, p := range unsound() {
		for _, a := range []api.Addr{zero, one, p.Addr, top} {
			if Has(p, a) {
				t.Errorf("Has(%x, %x) of no prefix", p, a)
			}
		}
	}
}

func TestCoversMeets(t *testing.T) {
	for _, p := range prefixes() {
		for _, q := range prefixes() {
			r, s := Span(p), Span(q)
			if got, want := Covers(p, q), within(r, s.First) && within(r, s.Last); got != want {
				t.Fatalf("Covers(%x, %x) is %v", p, q, got)
			}
			if got, want := Meets(p, q), within(r, s.First) || within(s, r.First); got != want {
				t.Fatalf("Meets(%x, %x) is %v", p, q, got)
			}
		}
		for _, q := range unsound() {
			if Covers(p, q) || Covers(q, p) || Meets(p, q) || Meets(q, p) {
				t.Fatalf("%x and %x, which is no prefix", p, q)
			}
		}
	}
	for _, q := range unsound() {
		if Covers(q, q) || Meets(q, q) {
			t.Errorf("%x, which is no prefix, and itself", q)
		}
	}
}

// P1.6

func TestHalves(t *testing.T) {
	net := api.Prefix{Addr: api.Addr{Lo: 0xc0a80100}, Bits: 120}
	low, high, ok := Halves(net)
	if low != (api.Prefix{Addr: net.Addr, Bits: 121}) || high != (api.Prefix{Addr: api.Addr{Lo: 0xc0a80180}, Bits: 121}) || !ok {
		t.Error("halves of 192.168.1.0/24", low, high, ok)
	}
	for _, p := range prefixes() {
		low, high, ok := Halves(p)
		if p.Bits == 128 {
			if low != (api.Prefix{}) || high != (api.Prefix{}) || ok {
				t.Errorf("Halves(%x) is %x, %x, %v", p, low, high, ok)
			}
			continue
		}
		whole, left, right := Span(p), Span(low), Span(high)
		next, over := Add(left.Last, one)
		joined := left.First == whole.First && next == right.First && !over && right.Last == whole.Last
		if !ok || low.Bits != p.Bits+1 || high.Bits != p.Bits+1 || !joined {
			t.Errorf("Halves(%x) is %x, %x, %v", p, low, high, ok)
		}
	}
	for _, p := range unsound() {
		if low, high, ok := Halves(p); low != (api.Prefix{}) || high != (api.Prefix{}) || ok {
			t.Errorf("Halves(%x) is %x, %x, %v", p, low, high, ok)
		}
	}
}
