// Package addr is layer 1: addresses of 128 bits and their prefixes. See shared/doc/01-addr.md.
package addr

import (
	"cmp"
	"math"
	"math/bits"

	"tenancy/api"
)

// The bits of an address, and of each of its two words.
const (
	width = 128
	word  = 64
)

// Cmp: -1, 0 or 1, as a is below b, the same, or above it.
func Cmp(a api.Addr, b api.Addr) int {
	if a.Hi != b.Hi {
		return cmp.Compare(a.Hi, b.Hi)
	}
	return cmp.Compare(a.Lo, b.Lo)
}

// Add: the sum modulo 2^128; true: it is 2^128 or more.
func Add(a api.Addr, b api.Addr) (api.Addr, bool) {
	lo, carry := bits.Add64(a.Lo, b.Lo, 0)
	hi, over := bits.Add64(a.Hi, b.Hi, carry)
	return api.Addr{Hi: hi, Lo: lo}, over == 1
}

// Sub: the difference modulo 2^128; true: it is below 0.
func Sub(a api.Addr, b api.Addr) (api.Addr, bool) {
	lo, borrow := bits.Sub64(a.Lo, b.Lo, 0)
	hi, under := bits.Sub64(a.Hi, b.Hi, borrow)
	return api.Addr{Hi: hi, Lo: lo}, under == 1
}

// Up: a times 2 to the n; Down: a by 2 to the n, cut. Below 0, n counts as 0.
func Up(a api.Addr, n int) api.Addr {
	switch {
	case n <= 0:
		return a
	case n < word:
		return api.Addr{Hi: a.Hi<<n | a.Lo>>(word-n), Lo: a.Lo << n}
	}
	return api.Addr{Hi: a.Lo << (n - word)}
}

func Down(a api.Addr, n int) api.Addr {
	switch {
	case n <= 0:
		return a
	case n < word:
		return api.Addr{Hi: a.Hi >> n, Lo: a.Lo>>n | a.Hi<<(word-n)}
	}
	return api.Addr{Lo: a.Hi >> (n - word)}
}

// Mod: a modulo b; false: b is 0.
func Mod(a api.Addr, b api.Addr) (api.Addr, bool) {
	switch {
	case b == api.Addr{}:
		return api.Addr{}, false
	case b.Hi == 0:
		return api.Addr{Lo: bits.Rem64(a.Hi, a.Lo, b.Lo)}, true
	}
	return longRest(a, b), true
}

// longRest is the rest of a by a b of more than 64 bits, for which the library
// has no division; b is shifted no further than to a's highest bit, so that
// none of its bits gets lost.
func longRest(a api.Addr, b api.Addr) api.Addr {
	for n := bits.LeadingZeros64(b.Hi) - bits.LeadingZeros64(a.Hi); n >= 0; n-- {
		if less, under := Sub(a, Up(b, n)); !under {
			a = less
		}
	}
	return a
}

// Of4, To4: an address of 32 bits as one of 128, and back.
func Of4(n uint32) api.Addr { return api.Addr{Lo: uint64(n)} }

func To4(a api.Addr) (uint32, bool) {
	if a.Hi != 0 || a.Lo > math.MaxUint32 {
		return 0, false
	}
	return uint32(a.Lo), true
}

// tail is the number whose bits behind the first n are 1.
func tail(n int) api.Addr {
	return Down(api.Addr{Hi: math.MaxUint64, Lo: math.MaxUint64}, n)
}

// Clip: the prefix of so many bits that has a; false: there is none.
func Clip(a api.Addr, bits int) (api.Prefix, bool) {
	if bits < 0 || bits > width {
		return api.Prefix{}, false
	}
	t := tail(bits)
	return api.Prefix{Addr: api.Addr{Hi: a.Hi &^ t.Hi, Lo: a.Lo &^ t.Lo}, Bits: bits}, true
}

// Sound: whether p is a prefix. Any prefix has its own Addr.
func Sound(p api.Prefix) bool { return Has(p, p.Addr) }

// Span: a prefix's addresses.
func Span(p api.Prefix) api.Range {
	if !Sound(p) {
		return api.Range{}
	}
	t := tail(p.Bits)
	return api.Range{First: p.Addr, Last: api.Addr{Hi: p.Addr.Hi | t.Hi, Lo: p.Addr.Lo | t.Lo}}
}

// Has: whether an address is in a prefix. What Clip answers is always a
// prefix, so it is never the same as a p that is none.
func Has(p api.Prefix, a api.Addr) bool {
	q, ok := Clip(a, p.Bits)
	return ok && q == p
}

// Covers: whether all of q is in p; Meets: whether something is in both, which
// is so just when one lies in the other.
func Covers(p api.Prefix, q api.Prefix) bool {
	return Sound(q) && p.Bits <= q.Bits && Has(p, q.Addr)
}

func Meets(p api.Prefix, q api.Prefix) bool { return Covers(p, q) || Covers(q, p) }

// Halves: a prefix's two halves; false: it has none.
func Halves(p api.Prefix) (api.Prefix, api.Prefix, bool) {
	if !Sound(p) || p.Bits == width {
		return api.Prefix{}, api.Prefix{}, false
	}
	low := api.Prefix{Addr: p.Addr, Bits: p.Bits + 1}
	// p's last address, cut to one bit more, begins the upper half.
	high, ok := Clip(Span(p).Last, p.Bits+1)
	return low, high, ok
}
