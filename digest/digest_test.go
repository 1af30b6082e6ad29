package digest

import (
	"bytes"
	"crypto/hmac"
	"crypto/md5"
	"encoding/binary"
	"encoding/hex"
	"hash/crc32"
	"math"
	"math/rand"
	"strings"
	"sync"
	"testing"
)

func chance() *rand.Rand { return rand.New(rand.NewSource(5)) }

// noise is n bytes that a random source gives.
func noise(n int, random *rand.Rand) string {
	list := make([]byte, n)
	random.Read(list)
	return string(list)
}

// rows are n bytes of several kinds: the least, the greatest, the ones around
// the middle of a byte, rising ones and random ones.
func rows(n int, random *rand.Rand) []string {
	rising := make([]byte, n)
	for i := range rising {
		rising[i] = byte(i + 1)
	}
	return []string{
		strings.Repeat("\x00", n), strings.Repeat("\xff", n), strings.Repeat("\x80", n), strings.Repeat("\x7f", n),
		string(rising), noise(n, random),
	}
}

// long are lengths whose number of bits has two to four bytes, with those
// around a whole number of blocks.
func long() []int {
	return []int{
		8191, 8192, 8193, 65479, 65480, 65507, 65535, 65536, 65537,
		1<<20 - 1, 1 << 20, 1<<20 + 55, 1<<20 + 56, 1<<21 - 1, 1 << 21, 1<<21 + 63,
	}
}

// libraryMD5 and libraryHMAC are what the library makes of the same bytes.
func libraryMD5(s string) string {
	sum := md5.Sum([]byte(s))
	return string(sum[:])
}

func libraryHMAC(key string, s string) string {
	sum := hmac.New(md5.New, []byte(key))
	sum.Write([]byte(s))
	return string(sum.Sum(nil))
}

// P5.1

func TestCRCExamples(t *testing.T) {
	for _, c := range []struct {
		s    string
		want uint32
	}{
		{"", 0},
		{"123456789", 0xcbf43926},
		{"a", 0xe8b7be43},
		{"abc", 0x352441c2},
		{"\x00", 0xd202ef8d},
		{"\xff", 0xff000000},
		{"\x00\x00\x00\x00", 0x2144df1c},
		{"\xff\xff\xff\xff", 0xffffffff},
		{strings.Repeat("\x00", 32), 0x190a55ad},
		{strings.Repeat("\xff", 32), 0xff6cab0b},
	} {
		if got := CRC(c.s); got != c.want {
			t.Errorf("CRC(%q) is %x", c.s, got)
		}
	}
}

func checkCRC(t *testing.T, s string) {
	t.Helper()
	if got, want := CRC(s), crc32.ChecksumIEEE([]byte(s)); got != want {
		t.Fatalf("CRC of %d bytes is %x, not %x", len(s), got, want)
	}
}

// Each row of one or two bytes, and so each byte behind each register that one
// byte can make.
func TestCRCOfEachByte(t *testing.T) {
	for first := range 256 {
		checkCRC(t, string([]byte{byte(first)}))
		for second := range 256 {
			checkCRC(t, string([]byte{byte(first), byte(second)}))
		}
	}
}

func TestCRCOfEachLength(t *testing.T) {
	random := chance()
	for n := range 600 {
		for _, s := range rows(n, random) {
			checkCRC(t, s)
		}
	}
	for _, n := range long() {
		checkCRC(t, noise(n, random))
	}
}

// A frame's sum must tell each change of one bit, and bytes 0 that come or go
// at either end.
func TestCRCTellsChanges(t *testing.T) {
	s := noise(40, chance())
	want := CRC(s)
	for i := range 8 * len(s) {
		list := []byte(s)
		list[i/8] ^= 1 << (i % 8)
		if CRC(string(list)) == want {
			t.Errorf("bit %d isn't told", i)
		}
	}
	for _, other := range []string{"\x00" + s, s + "\x00", s[1:], s[:39], s[1:] + s[:1]} {
		if CRC(other) == want {
			t.Errorf("%x isn't told from %x", other, s)
		}
	}
}

// P5.2

// The examples of the chapter, and RFC 1321's.
func TestMD5Examples(t *testing.T) {
	for _, c := range []struct {
		s    string
		want string
	}{
		{"", "d41d8cd98f00b204e9800998ecf8427e"},
		{"a", "0cc175b9c0f1b6a831c399e269772661"},
		{"abc", "900150983cd24fb0d6963f7d28e17f72"},
		{"message digest", "f96b697d7cb7938d525a2f31aaf161d0"},
		{"abcdefghijklmnopqrstuvwxyz", "c3fcd3d76192e4007dfb496cca67e13b"},
		{"ABCDEFGHIJKLMNOPQRSTUVWXYZabcdefghijklmnopqrstuvwxyz0123456789", "d174ab98d277d9f5a5611c2c9f419d9f"},
		{strings.Repeat("1234567890", 8), "57edf4a22be3c955ac49da2e2107b67a"},
	} {
		if got := hex.EncodeToString([]byte(MD5(c.s))); got != c.want {
			t.Errorf("MD5(%q) is %s", c.s, got)
		}
	}
}

func checkMD5(t *testing.T, s string) {
	t.Helper()
	if got, want := MD5(s), libraryMD5(s); got != want {
		t.Fatalf("MD5 of %d bytes is %x, not %x", len(s), got, want)
	}
}

func TestMD5OfEachByte(t *testing.T) {
	for first := range 256 {
		for second := range 256 {
			checkMD5(t, string([]byte{byte(first), byte(second)}))
		}
	}
}

// Each place at which a text can end in its block, over several blocks: at 55
// modulo 64 no byte 0 stands behind the marker, at 56 the length needs one
// block more.
func TestMD5OfEachLength(t *testing.T) {
	random := chance()
	for n := range 600 {
		for _, s := range rows(n, random) {
			checkMD5(t, s)
		}
	}
	for _, n := range long() {
		checkMD5(t, noise(n, random))
	}
}

// What stands behind a text, of lengths too for which no text is made here:
// those whose number of bits has five bytes and more.
func TestPadding(t *testing.T) {
	list := append(long(), 1<<29-1, 1<<29, 1<<29+1, 1<<30, math.MaxInt32-1, math.MaxInt32)
	for n := range 300 {
		list = append(list, n)
	}
	for _, n := range list {
		want := []byte{0x80}
		for (n+len(want))%64 != 56 {
			want = append(want, 0)
		}
		want = binary.LittleEndian.AppendUint64(want, uint64(n)*8)
		if got := padding(n); got != string(want) {
			t.Errorf("behind %d bytes stands %x, not %x", n, got, want)
		}
	}
}

func TestSines(t *testing.T) {
	for i := range 64 {
		want := uint32(math.Floor(math.Abs(math.Sin(float64(i+1))) * (1 << 32)))
		if sines[i] != want {
			t.Errorf("the sine of step %d is %x, not %x", i, sines[i], want)
		}
	}
}

// P5.3

// The examples of the chapter, and RFC 2202's.
func TestHMACExamples(t *testing.T) {
	var rising []byte
	for i := range 25 {
		rising = append(rising, byte(i+1))
	}
	for _, c := range []struct {
		key  string
		s    string
		want string
	}{
		{strings.Repeat("\x0b", 16), "Hi There", "9294727a3638bb1c13f48ef8158bfc9d"},
		{"Jefe", "what do ya want for nothing?", "750c783e6ab0b503eaa86e310a5db738"},
		{strings.Repeat("\xaa", 16), strings.Repeat("\xdd", 50), "56be34521d144c88dbb8c733f0e8b3f6"},
		{string(rising), strings.Repeat("\xcd", 50), "697eaf0aca3a3aea3a75164746ffaa79"},
		{strings.Repeat("\x0c", 16), "Test With Truncation", "56461ef2342edc00f9bab995690efd4c"},
		{strings.Repeat("\xaa", 80), "Test Using Larger Than Block-Size Key - Hash Key First", "6b1ab7fe4bd7bf8f0b62e6ce61b9d0cd"},
		{strings.Repeat("\xaa", 80), "Test Using Larger Than Block-Size Key and Larger Than One Block-Size Data", "6f630fad67cda0ee1fb1f562db3aa53e"},
		{"", "", "74e6f7298a9c2d168935f58c001bad88"},
	} {
		if got := hex.EncodeToString([]byte(HMAC(c.key, c.s))); got != c.want {
			t.Errorf("HMAC(%x, %q) is %s", c.key, c.s, got)
		}
	}
}

func checkHMAC(t *testing.T, key string, s string) {
	t.Helper()
	if got, want := HMAC(key, s), libraryHMAC(key, s); got != want {
		t.Fatalf("HMAC of %d bytes under a key of %d is %x, not %x", len(s), len(key), got, want)
	}
}

func TestHMACOfEachKeyLength(t *testing.T) {
	random := chance()
	for n := range 200 {
		for _, key := range rows(n, random) {
			for _, length := range []int{0, 1, 16, 55, 56, 64, 130} {
				checkHMAC(t, key, noise(length, random))
			}
		}
	}
	for _, n := range long() {
		checkHMAC(t, noise(n, random), noise(20, random))
	}
}

func TestHMACOfEachLength(t *testing.T) {
	random := chance()
	for _, n := range []int{0, 1, 16, 63, 64, 65, 128} {
		key := noise(n, random)
		for length := range 200 {
			checkHMAC(t, key, noise(length, random))
		}
	}
	for _, length := range long() {
		checkHMAC(t, noise(16, random), noise(length, random))
	}
}

// A key of 64 bytes is used as it is, one of 65 by its digest; bytes 0 behind
// a key that is no longer than 64 with them make the same key.
func TestHMACAtTheKeysLimit(t *testing.T) {
	key, s := noise(65, chance()), "abc"
	if HMAC(key, s) != HMAC(MD5(key), s) {
		t.Error("a key of 65 bytes isn't the one that its digest is")
	}
	if HMAC(key[:64], s) == HMAC(MD5(key[:64]), s) {
		t.Error("a key of 64 bytes is the one that its digest is")
	}
	if HMAC(key[:60], s) != HMAC(key[:60]+"\x00\x00\x00\x00", s) {
		t.Error("bytes 0 that make a key 64 bytes long change it")
	}
	if HMAC(key[:60], s) == HMAC(key[:60]+"\x00\x00\x00\x00\x00", s) {
		t.Error("bytes 0 that make a key 65 bytes long don't change it")
	}
	if HMAC("\x00"+key[:10], s) == HMAC(key[:10], s) {
		t.Error("a byte 0 ahead of a key doesn't change it")
	}
}

// The key and the text don't run into one another.
func TestHMACTellsKeyFromText(t *testing.T) {
	all := noise(80, chance())
	seen := map[string]int{}
	for i := range len(all) + 1 {
		sum := HMAC(all[:i], all[i:])
		if other, ok := seen[sum]; ok {
			t.Errorf("a key of %d bytes answers what one of %d does", i, other)
		}
		seen[sum] = i
	}
}

// All of them

func TestSizes(t *testing.T) {
	for n := range 200 {
		s := strings.Repeat("s", n)
		if len(MD5(s)) != 16 || len(HMAC(s, s)) != 16 {
			t.Errorf("of %d bytes MD5 has %d, HMAC %d", n, len(MD5(s)), len(HMAC(s, s)))
		}
	}
}

// Nothing is kept from call to call, and the tables stay as they are: calls
// that run beside one another answer the same, whatever was asked ahead.
func TestCallsAreApart(t *testing.T) {
	random := chance()
	var texts []string
	for n := range 150 {
		texts = append(texts, noise(n, random))
	}
	turnsAhead, sinesAhead, startAhead := turns, sines, start
	var group sync.WaitGroup
	for range 8 {
		group.Go(func() {
			for i, s := range texts {
				key := texts[len(texts)-1-i]
				if CRC(s) != crc32.ChecksumIEEE([]byte(s)) || MD5(s) != libraryMD5(s) || HMAC(key, s) != libraryHMAC(key, s) {
					t.Errorf("another answer for %d bytes", len(s))
				}
			}
		})
	}
	group.Wait()
	if turns != turnsAhead || sines != sinesAhead || start != startAhead {
		t.Error("a table has changed")
	}
}

// A block that is added leaves the sums that it is added to.
func TestSumsAreValues(t *testing.T) {
	part := string(bytes.Repeat([]byte("ab"), 32))
	ahead := sums{1, 2, 3, 4}
	one, two := ahead.add(part), ahead.add(part)
	if ahead != (sums{1, 2, 3, 4}) || one != two || one == ahead {
		t.Errorf("%x, and behind a block %x and %x", ahead, one, two)
	}
}
