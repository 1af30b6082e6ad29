package opt4

import (
	"encoding/hex"
	"slices"
	"strings"
	"testing"

	"tenancy/api"
)

// raw is the bytes that hexadecimal digits tell; spaces part them.
func raw(text string) string {
	list, err := hex.DecodeString(strings.ReplaceAll(text, " ", ""))
	if err != nil {
		panic(err)
	}
	return string(list)
}

func raws(texts ...string) []string {
	var list []string
	for _, text := range texts {
		list = append(list, raw(text))
	}
	return list
}

func opt(code byte, data string) api.Opt4 { return api.Opt4{Code: code, Data: data} }

func opts(list ...api.Opt4) []api.Opt4 { return list }

// rising is n bytes, no two neighbours of which are the same; 0 and 255 are among
// the first ones.
func rising(n int) string {
	list := make([]byte, n)
	for i := range list {
		list[i] = byte(i - 1)
	}
	return string(list)
}

// inBytes is the bytes of one option, whose data are at most 255 bytes.
func inBytes(code byte, data string) string { return string([]byte{code, byte(len(data))}) + data }

// pieces is data in options of at most this many bytes each.
func pieces(code byte, data string, most int) string {
	s := ""
	for len(data) > most {
		s += inBytes(code, data[:most])
		data = data[most:]
	}
	return s + inBytes(code, data)
}

// codes are n options of one byte of data each, with different codes from 1 on.
func codes(n int) []api.Opt4 {
	var list []api.Opt4
	for i := range n {
		list = append(list, opt(byte(i+1), string([]byte{byte(7 * i)})))
	}
	return list
}

func bytesOf(list []api.Opt4) string {
	s := ""
	for _, o := range list {
		s += pieces(o.Code, o.Data, 255)
	}
	return s
}

// parses fails unless Parse of the areas is the list.
func parses(t *testing.T, what string, want []api.Opt4, areas ...string) {
	t.Helper()
	if list, err := Parse(areas...); err != api.OK || !slices.Equal(list, want) {
		t.Errorf("Parse of %s is %x, %d, not %x", what, list, err, want)
	}
}

// parsesNot fails unless Parse of the areas answers just an error.
func parsesNot(t *testing.T, what string, want api.Errno, areas ...string) {
	t.Helper()
	if list, err := Parse(areas...); err != want || len(list) > 0 {
		t.Errorf("Parse of %s is %d options, %d, not %d", what, len(list), err, want)
	}
}

func emits(t *testing.T, what string, want string, list ...api.Opt4) {
	t.Helper()
	if area, err := Emit(list); err != api.OK || area != want {
		t.Errorf("Emit of %s is %x, %d, not %x", what, area, err, want)
	}
}

func emitsNot(t *testing.T, what string, want api.Errno, list ...api.Opt4) {
	t.Helper()
	if area, err := Emit(list); err != want || area != "" {
		t.Errorf("Emit of %s is %d bytes, %d, not %d", what, len(area), err, want)
	}
}

// The chapter's examples

func TestExamples(t *testing.T) {
	parses(t, "the first one", opts(opt(53, "\x01")), raw("35 01 01 00 00 ff 99"))
	parses(t, "two of one code", opts(opt(12, "ab")), raw("0c 01 61 0c 01 62"))
	parses(t, "two areas", opts(opt(12, "ab"), opt(53, "")), raw("0c 01 61"), raw("35 00 0c 01 62"))
	parsesNot(t, "data that isn't whole", api.ErrShort, raw("0c 02 61"))
	parsesNot(t, "no length", api.ErrShort, raw("0c"))
	emits(t, "the first one", raw("35 01 01 ff"), opt(53, "\x01"))
	long := rising(300)
	emits(t, "300 bytes", raw("2b ff")+long[:255]+raw("2b 2d")+long[255:]+raw("ff"), opt(43, long))
	emits(t, "no data", raw("0c 00 ff"), opt(12, ""))
	emitsNot(t, "the code 0", api.ErrOption, opt(0, "a"))
	emitsNot(t, "one code twice", api.ErrOption, opt(12, "a"), opt(12, "b"))
}

// P13.1

func TestParse(t *testing.T) {
	for i, c := range []struct {
		areas []string
		want  []api.Opt4
	}{
		{nil, nil},
		{raws(""), nil},
		{raws("", "", ""), nil},
		{raws("00"), nil},
		{raws("00 00 00", "00"), nil},
		{raws("ff"), nil},
		{raws("ff", "ff"), nil},
		{raws("ff ff ff"), nil},
		// one option
		{raws("01 00"), opts(opt(1, ""))},
		{raws("fe 00"), opts(opt(254, ""))},
		{raws("01 01 02"), opts(opt(1, "\x02"))},
		{raws("fe 02 fd fc"), opts(opt(254, "\xfd\xfc"))},
		{raws("0c 03 61 62 63 ff"), opts(opt(12, "abc"))},
		// bytes 0 where an option could begin
		{raws("00 0c 01 61"), opts(opt(12, "a"))},
		{raws("00 00 00 0c 01 61 00 00"), opts(opt(12, "a"))},
		{raws("0c 01 61 00 35 01 62"), opts(opt(12, "a"), opt(53, "b"))},
		{raws("0c 00 00 00 35 00 00"), opts(opt(12, ""), opt(53, ""))},
		{raws("0c 01 61 00 00 0c 01 62"), opts(opt(12, "ab"))},
		// 0 and 255 as data and as a part of them
		{raws("0c 01 00"), opts(opt(12, "\x00"))},
		{raws("0c 01 ff"), opts(opt(12, "\xff"))},
		{raws("0c 03 ff 00 ff 35 02 00 ff 01 00"), opts(opt(12, "\xff\x00\xff"), opt(53, "\x00\xff"), opt(1, ""))},
		{raws("0c 04 35 01 61 ff ff 35"), opts(opt(12, "\x35\x01\x61\xff"))},
		// what stands behind the end
		{raws("0c 01 61 ff 35 01 62"), opts(opt(12, "a"))},
		{raws("0c 01 61 ff 0c 01 62"), opts(opt(12, "a"))},
		{raws("ff 0c 01 61"), nil},
		{raws("00 ff 0c 01 61"), nil},
		{raws("0c 01 61 ff 35"), opts(opt(12, "a"))},
		{raws("0c 01 61 ff 35 09 00"), opts(opt(12, "a"))},
		{raws("0c 01 61 00 ff ff 00"), opts(opt(12, "a"))},
		// in their order
		{raws("fe 00 01 00 80 00 7f 00"), opts(opt(254, ""), opt(1, ""), opt(128, ""), opt(127, ""))},
		{raws("35 01 61 0c 01 62 35 01 63 0c 01 64 01 01 65"), opts(opt(53, "ac"), opt(12, "bd"), opt(1, "e"))},
		{raws("0c 00 0c 00 0c 00"), opts(opt(12, ""))},
		{raws("0c 00 35 01 61 0c 02 62 63 0c 00"), opts(opt(12, "bc"), opt(53, "a"))},
		{raws("0c 02 61 61 0c 02 61 61"), opts(opt(12, "aaaa"))},
		// the areas are apart from one another
		{raws("0c 01 61", "0c 01 62", "0c 01 63"), opts(opt(12, "abc"))},
		{raws("0c 01 61 ff", "0c 01 62 ff"), opts(opt(12, "ab"))},
		{raws("0c 01 61 ff 35 01 66", "ff", "35 01 62 0c 01 63"), opts(opt(12, "ac"), opt(53, "b"))},
		{raws("", "0c 01 61", "", "35 00", ""), opts(opt(12, "a"), opt(53, ""))},
		{raws("35 01 61", "0c 01 62", "35 01 63 01 00"), opts(opt(53, "ac"), opt(12, "b"), opt(1, ""))},
		{raws("0c 01 61 ff 0c", "00 0c 01 62 00"), opts(opt(12, "ab"))},
	} {
		if list, err := Parse(c.areas...); err != api.OK || !slices.Equal(list, c.want) {
			t.Errorf("row %d: Parse(%x) is %x, %d, not %x", i, c.areas, list, err, c.want)
		}
	}
}

func TestParseOfEachCodeAndLength(t *testing.T) {
	for code := 1; code <= 254; code++ {
		for n := 0; n <= 255; n++ {
			data := rising(n)
			one := inBytes(byte(code), data)
			parses(t, "one option", opts(opt(byte(code), data)), one)
			parses(t, "one option, ended", opts(opt(byte(code), data)), "\x00"+one+"\xff"+one)
		}
	}
}

func TestParseOfWhatIsNotWhole(t *testing.T) {
	for i, areas := range [][]string{
		raws("01"), raws("fe"), raws("00 00 0c"), raws("0c 01"), raws("0c ff"), raws("0c 02 ff"), raws("0c 02 00"),
		raws("0c 01 61 35"), raws("0c 01 61 35 01"), raws("0c 00 0c"), raws("0c 01 61 0c 02 62"),
		// an option doesn't go on in the next area, nor behind an end
		raws("0c", "01 61"), raws("0c 01", "61"), raws("0c 02 61", "62"), raws("0c 02 61", "0c 02 61 62"),
		raws("0c 01 61", "35"), raws("0c 01 61 ff", "", "35 02 01"), raws("0c 02 ff", "ff"),
		raws("ff", "0c"), raws("0c", "ff"), raws("35 01 61", "0c 03 61 62", "35 01 61"),
	} {
		if list, err := Parse(areas...); err != api.ErrShort || len(list) > 0 {
			t.Errorf("row %d: Parse(%x) is %x, %d", i, areas, list, err)
		}
	}
	for n := 1; n <= 255; n++ {
		one := inBytes(12, rising(n))
		for cut := 1; cut < len(one); cut++ {
			parsesNot(t, "a part", api.ErrShort, one[:cut])
			parsesNot(t, "a part behind a whole one", api.ErrShort, one+"\x00"+one[:cut])
			parsesNot(t, "a part in an area of its own", api.ErrShort, one+"\xff", one[:cut], one)
		}
	}
}

func TestParseOfManyOptions(t *testing.T) {
	list := codes(254)
	for _, n := range []int{1, 2, 127, 128} {
		area := bytesOf(list[:n])
		parses(t, "as many as may be", list[:n], area)
		parses(t, "as many as may be, ended", list[:n], area+"\xff"+bytesOf(list[n:]))
		parses(t, "as many as may be, in areas", list[:n], bytesOf(list[:n/2])+"\xff", bytesOf(list[n/2:n]))
		twice := slices.Clone(list[:n])
		for i := range twice {
			twice[i].Data += twice[i].Data
		}
		parses(t, "as many as may be, twice", twice, area+area)
		parses(t, "as many as may be, twice, in areas", twice, area+"\xff", area+"\x00")
		parses(t, "as many as may be and their codes again", list[:n], area+bytesOf(withoutData(list[:n])))
	}
	for _, n := range []int{129, 130, 254} {
		parsesNot(t, "one more", api.ErrLong, bytesOf(list[:n]))
		parsesNot(t, "one more, without data", api.ErrLong, bytesOf(withoutData(list[:n])))
		parsesNot(t, "one more, in an area of its own", api.ErrLong, bytesOf(list[:128])+"\xff", bytesOf(list[128:n]))
		parsesNot(t, "one more behind all again", api.ErrLong, strings.Repeat(bytesOf(list[:128]), 3)+bytesOf(list[128:n]))
		turned := slices.Clone(list[:n])
		slices.Reverse(turned)
		parsesNot(t, "one more, falling", api.ErrLong, bytesOf(turned))
	}
}

func withoutData(list []api.Opt4) []api.Opt4 {
	bare := slices.Clone(list)
	for i := range bare {
		bare[i].Data = ""
	}
	return bare
}

func TestParseOfLongData(t *testing.T) {
	for _, most := range []int{1, 2, 3, 16, 100, 127, 128, 254, 255} {
		for _, n := range []int{4094, 4095, 4096} {
			data := rising(n)
			area := pieces(43, data, most)
			parses(t, "long data", opts(opt(43, data)), area)
			parses(t, "long data and more without any", opts(opt(43, data)), area+inBytes(43, ""), inBytes(43, ""))
			parses(t, "long data beside others", opts(opt(1, "ab"), opt(43, data), opt(254, "c")), inBytes(1, "a")+area+inBytes(254, "c"), inBytes(1, "b"))
			more := rising(4096 - n)
			parses(t, "long data in two areas", opts(opt(43, data+more)), area, inBytes(43, more))
			parsesNot(t, "too long data", api.ErrLong, area+inBytes(43, more+"x"))
			parsesNot(t, "too long data in two areas", api.ErrLong, area+"\xff", inBytes(1, ""), inBytes(43, more+"x"))
		}
		parsesNot(t, "4097 bytes", api.ErrLong, pieces(43, rising(4097), most))
		parsesNot(t, "10000 bytes", api.ErrLong, pieces(43, rising(10000), most))
	}
	// It is each code's data that have a limit, not all.
	var list []api.Opt4
	area := ""
	for i := range 128 {
		list = append(list, opt(byte(i+100), strings.Repeat(rising(256), 16)))
		area += pieces(byte(i+100), list[i].Data, 255)
	}
	parses(t, "the most", list, area)
	parsesNot(t, "the most and a byte", api.ErrLong, area+inBytes(164, "x"))
}

func TestParseOfVeryManyPieces(t *testing.T) {
	const many = 1 << 20
	parses(t, "options without data", opts(opt(12, "")), strings.Repeat(inBytes(12, ""), many))
	parses(t, "bytes 0", opts(opt(12, "a")), strings.Repeat("\x00", many)+inBytes(12, "a"), strings.Repeat("\x00", many))
	parses(t, "bytes behind the end", nil, "\xff"+strings.Repeat(inBytes(12, "a"), many))
	parses(t, "areas without bytes", opts(opt(12, "a")), append(make([]string, many), inBytes(12, "a"))...)
	areas := slices.Repeat([]string{inBytes(12, "a") + "\xff"}, 4096)
	parses(t, "areas", opts(opt(12, strings.Repeat("a", 4096))), areas...)
	parsesNot(t, "more areas", api.ErrLong, append(areas, areas[0])...)
}

// Of the faults the first one is told; of one option's two ErrShort.
func TestParseTellsTheFirstFault(t *testing.T) {
	full, long := bytesOf(codes(128)), pieces(43, rising(4096), 255)
	for what, short := range map[string]string{"no length": "\xc8", "no data": "\xc8\x01", "too few data": "\xc8\xff" + rising(254)} {
		parsesNot(t, what, api.ErrShort, full+short)
		parsesNot(t, what, api.ErrShort, full, short, inBytes(200, "x"))
		parsesNot(t, what, api.ErrShort, short, full+inBytes(200, ""))
		parsesNot(t, what, api.ErrLong, full+inBytes(200, "")+short)
		parsesNot(t, what, api.ErrLong, full+inBytes(200, "")+"\xff", short)
		parsesNot(t, what, api.ErrLong, long+inBytes(43, "x")+short)
		parsesNot(t, what, api.ErrLong, long, inBytes(43, "x"), short)
		parsesNot(t, what, api.ErrShort, long+short, inBytes(43, "x"))
	}
	parsesNot(t, "too long data that aren't whole", api.ErrShort, long+"\x2b\x02x")
	parsesNot(t, "too long data without a length", api.ErrShort, long+"\x2b")
	parsesNot(t, "too many and too long", api.ErrLong, full+long+inBytes(43, "x"))
	parses(t, "an end ahead of one too many", codes(128), full+"\xff"+inBytes(200, ""))
	parses(t, "an end ahead of a byte too many", opts(opt(43, rising(4096))), long+"\xff"+inBytes(43, "x"))
}

// P13.2

func TestEmit(t *testing.T) {
	emits(t, "nothing", "\xff")
	for code := 1; code <= 254; code++ {
		emits(t, "one code", string([]byte{byte(code), 2})+"ab\xff", opt(byte(code), "ab"))
		emits(t, "one code without data", string([]byte{byte(code), 0, 255}), opt(byte(code), ""))
	}
	emits(t, "some", raw("fe 01 00 01 00 80 02 ff ff 35 03 61 00 62 ff"), opt(254, "\x00"), opt(1, ""), opt(128, "\xff\xff"), opt(53, "a\x00b"))
	emits(t, "falling", raw("03 00 02 01 61 01 00 ff"), opt(3, ""), opt(2, "a"), opt(1, ""))
}

func TestEmitOfEachLength(t *testing.T) {
	for n := 0; n <= 4096; n++ {
		data := rising(n)
		area, err := Emit(opts(opt(43, data)))
		if err != api.OK || area != pieces(43, data, 255)+"\xff" {
			t.Fatalf("Emit of %d bytes is %d bytes, %d", n, len(area), err)
		}
		// The last piece has 1 byte at least, if there is any: 255 bytes need one piece, 256 two.
		if heads := max(1, (n+254)/255); len(area) != n+2*heads+1 {
			t.Fatalf("Emit of %d bytes is %d bytes", n, len(area))
		}
	}
	for _, n := range []int{254, 255, 256, 509, 510, 511, 4080, 4081} {
		data := rising(n)
		emits(t, "long data between others", inBytes(1, "a")+pieces(43, data, 255)+inBytes(2, "b")+"\xff", opt(1, "a"), opt(43, data), opt(2, "b"))
	}
}

func TestEmitOfWrongOptions(t *testing.T) {
	for _, n := range []int{4097, 4098, 65535, 65536, 65537, 1 << 20} {
		emitsNot(t, "too long data", api.ErrOption, opt(12, rising(n)))
	}
	right := opts(opt(12, "a"), opt(1, ""), opt(254, rising(4096)), opt(53, "\x01"), opt(100, rising(255)))
	for _, wrong := range opts(opt(0, ""), opt(0, "a"), opt(255, ""), opt(255, "a"), opt(43, rising(4097)), opt(0, rising(4097)), right[0], right[1], right[2], right[3], right[4], opt(1, "other"), opt(53, "")) {
		for i := range len(right) + 1 {
			emitsNot(t, "a wrong one among right ones", api.ErrOption, slices.Insert(slices.Clone(right), i, wrong)...)
		}
		emitsNot(t, "two wrong ones", api.ErrOption, append(slices.Clone(right), wrong, wrong)...)
	}
	for code := range 256 {
		emitsNot(t, "one code twice", api.ErrOption, opt(byte(code), "a"), opt(byte(code), "a"))
		emitsNot(t, "one code twice, apart", api.ErrOption, append(opts(opt(byte(code), ""), opt(byte(code^1), "")), opt(byte(code), "b"))...)
	}
}

func TestEmitOfManyOptions(t *testing.T) {
	list := codes(254)
	for _, n := range []int{127, 128} {
		emits(t, "as many as may be", bytesOf(list[:n])+"\xff", list[:n]...)
		emits(t, "as many as may be, others", bytesOf(list[254-n:])+"\xff", list[254-n:]...)
		emitsNot(t, "as many as may be, a wrong one last", api.ErrOption, append(slices.Clone(list[:n-1]), opt(255, ""))...)
		emitsNot(t, "as many as may be, the last as the first", api.ErrOption, append(slices.Clone(list[:n-1]), list[0])...)
	}
	most := slices.Clone(list[:128])
	for i := range most {
		most[i].Data = rising(4096)
	}
	emits(t, "the most", bytesOf(most)+"\xff", most...)
	for _, n := range []int{129, 130, 254} {
		emitsNot(t, "too many", api.ErrLong, list[:n]...)
		emitsNot(t, "too many of one code", api.ErrLong, slices.Repeat(opts(opt(12, "a")), n)...)
		emitsNot(t, "too many that are wrong", api.ErrLong, make([]api.Opt4, n)...)
		emitsNot(t, "too many with too long data", api.ErrLong, slices.Repeat(opts(opt(12, rising(4097))), n)...)
	}
	emitsNot(t, "very many", api.ErrLong, make([]api.Opt4, 1<<16)...)
	emitsNot(t, "128 of one code", api.ErrOption, slices.Repeat(opts(opt(12, "a")), 128)...)
}

// P13.3

func TestFindAndWithout(t *testing.T) {
	long := rising(5000)
	some := opts(opt(12, "a"), opt(0, "zero"), opt(53, ""), opt(12, "b"), opt(255, "end"), opt(53, "c"), opt(12, "a"), opt(254, long), opt(0, ""))
	for i, c := range []struct {
		list []api.Opt4
		code byte
		data string
		has  bool
		rest []api.Opt4
	}{
		{nil, 12, "", false, nil},
		{opts(), 0, "", false, nil},
		{opts(opt(12, "a")), 12, "a", true, nil},
		{opts(opt(12, "a")), 13, "", false, opts(opt(12, "a"))},
		{opts(opt(12, "")), 12, "", true, nil},
		{opts(opt(0, "")), 0, "", true, nil},
		{opts(opt(1, "")), 0, "", false, opts(opt(1, ""))},
		{some, 12, "a", true, opts(some[1], some[2], some[4], some[5], some[7], some[8])},
		{some, 53, "", true, opts(some[0], some[1], some[3], some[4], some[6], some[7], some[8])},
		{some, 0, "zero", true, opts(some[0], some[2], some[3], some[4], some[5], some[6], some[7])},
		{some, 255, "end", true, opts(some[0], some[1], some[2], some[3], some[5], some[6], some[7], some[8])},
		{some, 254, long, true, opts(some[0], some[1], some[2], some[3], some[4], some[5], some[6], some[8])},
		{some, 1, "", false, some},
		{opts(opt(12, "b"), opt(12, "a")), 12, "b", true, nil},
		{opts(opt(9, "x"), opt(12, "b"), opt(12, "a"), opt(9, "x")), 12, "b", true, opts(opt(9, "x"), opt(9, "x"))},
	} {
		if data, has := Find(c.list, c.code); data != c.data || has != c.has {
			t.Errorf("row %d: Find of %d is %x, %v", i, c.code, data, has)
		}
		if rest := Without(c.list, c.code); !slices.Equal(rest, c.rest) {
			t.Errorf("row %d: Without %d is %x", i, c.code, rest)
		}
	}
}

func TestFindAndWithoutOfEachCode(t *testing.T) {
	var list []api.Opt4
	for code := range 256 {
		list = append(list, opt(byte(code), "first "+string([]byte{byte(code)})))
	}
	for code := range 256 {
		list = append(list, opt(byte(255-code), "second"))
	}
	for code := range 256 {
		if data, has := Find(list, byte(code)); data != list[code].Data || !has {
			t.Errorf("Find of %d is %x, %v", code, data, has)
		}
		rest := Without(list, byte(code))
		want := slices.Concat(list[:code], list[code+1:511-code], list[512-code:])
		if !slices.Equal(rest, want) {
			t.Errorf("Without %d is %x", code, rest)
		}
		if data, has := Find(rest, byte(code)); data != "" || has {
			t.Errorf("Find of %d, which is taken out, is %x, %v", code, data, has)
		}
	}
}

func TestFindAndWithoutOfVeryManyOptions(t *testing.T) {
	list := slices.Repeat(opts(opt(12, "a"), opt(13, "b"), opt(12, "c")), 1<<18)
	if rest := Without(list, 12); !slices.Equal(rest, slices.Repeat(opts(opt(13, "b")), 1<<18)) {
		t.Errorf("Without is %d options", len(rest))
	}
	if data, has := Find(append(list, opt(14, "d")), 14); data != "d" || !has {
		t.Errorf("Find is %x, %v", data, has)
	}
}

// P13.4

func TestParseOfEmit(t *testing.T) {
	full := codes(128)
	for i := range full {
		full[i].Data = rising(32 * (i + 1))
	}
	for _, list := range [][]api.Opt4{nil, codes(1), codes(127), codes(128), withoutData(codes(128)), full, opts(opt(254, "\x00\xff"), opt(1, rising(4096)), opt(2, "")), codes(254)[126:]} {
		area, err := Emit(list)
		if err != api.OK {
			t.Fatalf("Emit is %d", err)
		}
		parses(t, "an area", list, area)
		parses(t, "an area and any bytes", list, area+"\x0c\x01")
		parses(t, "an area and others", list, area, "", "\xff")
	}
	for n := range 4097 {
		list := opts(opt(43, rising(n)), opt(44, ""))
		area, _ := Emit(list)
		parses(t, "each length", list, area)
	}
}

// markOpt stands in the spare room of a list of options.
var markOpt = opt(99, "mark")

// roomy is a list with spare room behind it, in which marks stand.
func roomy[E any](list []E, mark E) []E {
	return append(slices.Clone(list), mark, mark, mark)[:len(list)]
}

func everything[E any](list []E) []E { return slices.Clone(list[:cap(list)]) }

func spoil[E any](list []E, mark E) {
	for i := range list[:cap(list)] {
		list[:cap(list)][i] = mark
	}
}

// keeps makes a call twice with a list that has spare room, and writes over all
// of one answer and then of what was handed in.
func keeps[E comparable](t *testing.T, what string, given []E, mark E, call func(given []E) []api.Opt4) {
	t.Helper()
	given = roomy(given, mark)
	before := everything(given)
	first := call(given)
	want := slices.Clone(first)
	second := call(given)
	if !slices.Equal(everything(given), before) {
		t.Errorf("%s changes what is handed in: %v", what, before)
	}
	spoil(first, opt(66, "spoilt"))
	if !slices.Equal(everything(given), before) {
		t.Errorf("an answer of %s shares memory with what is handed in: %v", what, before)
	}
	if !slices.Equal(second, want) {
		t.Errorf("two answers of %s share memory: %v", what, before)
	}
	spoil(given, mark)
	if !slices.Equal(second, want) {
		t.Errorf("an answer of %s hangs on what is handed in: %v", what, before)
	}
}

func TestNothingIsChangedOrShared(t *testing.T) {
	for _, areas := range [][]string{nil, raws(""), raws("0c 01 61"), raws("0c 01 61 0c 01 62 35 00"), raws("0c 01 61", "35 00 0c 01 62 ff", "ff"), raws("0c 01 61", "35")} {
		keeps(t, "Parse", areas, "\x0c\x01m", func(given []string) []api.Opt4 {
			list, _ := Parse(given...)
			return list
		})
	}
	for _, list := range [][]api.Opt4{nil, opts(opt(12, "a")), codes(5), opts(opt(12, "a"), opt(1, ""), opt(12, "b"), opt(2, "c"), opt(0, "")), codes(129), opts(opt(12, rising(300)), opt(12, ""))} {
		for _, code := range []byte{0, 1, 12, 200} {
			keeps(t, "Without", list, markOpt, func(given []api.Opt4) []api.Opt4 { return Without(given, code) })
			keeps(t, "Find", list, markOpt, func(given []api.Opt4) []api.Opt4 {
				data, _ := Find(given, code)
				return opts(opt(code, data))
			})
		}
		keeps(t, "Emit", list, markOpt, func(given []api.Opt4) []api.Opt4 {
			area, _ := Emit(given)
			return opts(opt(0, area))
		})
	}
}
