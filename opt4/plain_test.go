package opt4

import (
	"math/rand"
	"slices"
	"testing"

	"tenancy/api"
)

// A second writing of the chapter's words: each option of the areas as it stands,
// with a mark on one that isn't whole, and from these what each call is to tell.

type stand struct {
	o     api.Opt4
	whole bool
}

// plainStands is the options as they stand in an area, up to one that isn't whole.
func plainStands(area string) []stand {
	data := []byte(area)
	var list []stand
	for len(data) > 0 {
		switch {
		case data[0] == 255:
			return list
		case data[0] == 0:
			data = data[1:]
		case len(data) < 2 || len(data)-2 < int(data[1]):
			return append(list, stand{})
		default:
			behind := 2 + int(data[1])
			list = append(list, stand{opt(data[0], string(data[2:behind])), true})
			data = data[behind:]
		}
	}
	return list
}

func plainParse(areas []string) ([]api.Opt4, api.Errno) {
	var list []api.Opt4
	for _, area := range areas {
		for _, s := range plainStands(area) {
			if !s.whole {
				return nil, api.ErrShort
			}
			i := 0
			for i < len(list) && list[i].Code != s.o.Code {
				i++
			}
			if i == 128 {
				return nil, api.ErrLong
			}
			if i == len(list) {
				list = append(list, opt(s.o.Code, ""))
			}
			list[i].Data += s.o.Data
			if len(list[i].Data) > 4096 {
				return nil, api.ErrLong
			}
		}
	}
	return list, api.OK
}

func plainEmit(list []api.Opt4) (string, api.Errno) {
	if len(list) > 128 {
		return "", api.ErrLong
	}
	var count [256]int
	s := ""
	for _, o := range list {
		count[o.Code]++
		if o.Code == 0 || o.Code == 255 || count[o.Code] > 1 || len(o.Data) > 4096 {
			return "", api.ErrOption
		}
		s += pieces(o.Code, o.Data, 255)
	}
	return s + "\xff", api.OK
}

// checkParse fails unless Parse is as the second writing tells; what it takes is
// read again as the same when it is written anew.
func checkParse(t *testing.T, areas []string) api.Errno {
	t.Helper()
	list, err := Parse(areas...)
	want, wantErr := plainParse(areas)
	if err != wantErr || !slices.Equal(list, want) {
		t.Fatalf("Parse(%x) is %x, %d, not %x, %d", areas, list, err, want, wantErr)
	}
	if err != api.OK {
		return err
	}
	area, err := Emit(list)
	if err != api.OK {
		t.Fatalf("Emit(%x) is %d", list, err)
	}
	if again, err := Parse(area); err != api.OK || !slices.Equal(again, list) {
		t.Fatalf("Parse of Emit(%x) is %x, %d", list, again, err)
	}
	return api.OK
}

// checkEmit fails unless Emit is as the second writing tells, and Parse of it the list.
func checkEmit(t *testing.T, list []api.Opt4) api.Errno {
	t.Helper()
	area, err := Emit(list)
	want, wantErr := plainEmit(list)
	if err != wantErr || area != want {
		t.Fatalf("Emit(%x) is %x, %d, not %x, %d", list, area, err, want, wantErr)
	}
	if err != api.OK {
		return err
	}
	if again, err := Parse(area); err != api.OK || !slices.Equal(again, list) {
		t.Fatalf("Parse of Emit(%x) is %x, %d", list, again, err)
	}
	return api.OK
}

// checkFind fails unless Find and Without are the first one of a code, and the others.
func checkFind(t *testing.T, list []api.Opt4, code byte) {
	t.Helper()
	var mine, others []api.Opt4
	for _, o := range list {
		if o.Code == code {
			mine = append(mine, o)
		} else {
			others = append(others, o)
		}
	}
	first := ""
	if len(mine) > 0 {
		first = mine[0].Data
	}
	if data, has := Find(list, code); data != first || has != (len(mine) > 0) {
		t.Fatalf("Find(%x, %d) is %x, %v", list, code, data, has)
	}
	if rest := Without(list, code); !slices.Equal(rest, others) {
		t.Fatalf("Without(%x, %d) is %x", list, code, rest)
	}
}

func noise(n int, random *rand.Rand) string {
	list := make([]byte, n)
	random.Read(list)
	return string(list)
}

// tally counts the answers, so that a test can ask that it has seen each.
type tally map[api.Errno]int

func (c tally) saw(t *testing.T, least int, errs ...api.Errno) {
	t.Helper()
	for _, err := range errs {
		if c[err] < least {
			t.Errorf("%d was answered %d times only", err, c[err])
		}
	}
}

// P13.1

func TestAllShortAreas(t *testing.T) {
	letters := []byte{0, 1, 2, 3, 254, 255}
	var grow func(area []byte)
	grow = func(area []byte) {
		checkParse(t, []string{string(area)})
		for cut := range area {
			checkParse(t, []string{string(area[:cut]), string(area[cut:])})
		}
		if len(area) == 6 {
			return
		}
		for _, b := range letters {
			grow(append(slices.Clone(area), b))
		}
	}
	grow(nil)
}

func TestParseOfNoise(t *testing.T) {
	random := rand.New(rand.NewSource(13))
	seen := tally{}
	for range 50000 {
		areas := make([]string, random.Intn(4))
		for i := range areas {
			area := []byte(noise(random.Intn(40), random))
			// Small numbers are lengths that fit now and then.
			for j := range area {
				if random.Intn(3) > 0 {
					area[j] %= 4
				}
			}
			areas[i] = string(area)
		}
		seen[checkParse(t, areas)]++
	}
	seen.saw(t, 5000, api.OK, api.ErrShort)
}

// someArea is options of few or many codes, with little or much data, with bytes
// 0 between, now and then with an end, cut off, or with one byte changed.
func someArea(random *rand.Rand) string {
	few, much := 1+random.Intn(254), random.Intn(256)
	s := ""
	for range random.Intn(160) {
		code := byte(1 + random.Intn(few))
		s += inBytes(code, noise(random.Intn(much+1), random))
		for random.Intn(8) == 0 {
			s += "\x00"
		}
	}
	switch random.Intn(6) {
	case 0, 1:
		s += "\xff" + noise(random.Intn(5), random)
	case 2:
		s = s[:random.Intn(len(s)+1)]
	case 3:
		if s != "" {
			at := random.Intn(len(s))
			s = s[:at] + noise(1, random) + s[at+1:]
		}
	}
	return s
}

func TestParseOfSomeAreas(t *testing.T) {
	random := rand.New(rand.NewSource(14))
	seen := tally{}
	for range 4000 {
		areas := make([]string, random.Intn(4))
		for i := range areas {
			areas[i] = someArea(random)
		}
		seen[checkParse(t, areas)]++
	}
	seen.saw(t, 100, api.OK, api.ErrShort, api.ErrLong)
}

// P13.2 to P13.4

// someOptions is a list, right or, by chance, with a code that can't be or that is
// there twice, with too much data, or with too many options.
func someOptions(random *rand.Rand) []api.Opt4 {
	all := random.Perm(254)
	list := make([]api.Opt4, random.Intn(134))
	for i := range list {
		n := random.Intn(6)
		switch random.Intn(12) {
		case 0:
			n = 255*random.Intn(17) + random.Intn(3)
		case 1:
			n = random.Intn(4097)
		}
		list[i] = opt(byte(all[i]+1), noise(min(n, 4096), random))
	}
	if len(list) > 0 && random.Intn(2) == 0 {
		o := &list[random.Intn(len(list))]
		switch random.Intn(4) {
		case 0:
			o.Code = 0
		case 1:
			o.Code = 255
		case 2:
			o.Code = list[random.Intn(len(list))].Code
		case 3:
			o.Data = noise(4094+random.Intn(6), random)
		}
	}
	return list
}

func TestEmitOfSomeOptions(t *testing.T) {
	random := rand.New(rand.NewSource(15))
	seen := tally{}
	for range 4000 {
		list := someOptions(random)
		seen[checkEmit(t, list)]++
		for range 4 {
			checkFind(t, list, byte(random.Intn(256)))
		}
	}
	seen.saw(t, 100, api.OK, api.ErrOption, api.ErrLong)
}

func TestFindAndWithoutOfAllShortLists(t *testing.T) {
	kinds := opts(opt(0, "a"), opt(1, ""), opt(1, "b"), opt(12, "c"), opt(255, ""))
	var grow func(list []api.Opt4)
	grow = func(list []api.Opt4) {
		for _, code := range []byte{0, 1, 2, 12, 254, 255} {
			checkFind(t, list, code)
		}
		checkEmit(t, list)
		if len(list) == 5 {
			return
		}
		for _, o := range kinds {
			grow(append(slices.Clone(list), o))
		}
	}
	grow(nil)
}
