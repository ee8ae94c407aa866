package kind_test

import (
	"bytes"
	"math"
	"strconv"
	"strings"
	"testing"

	"praxinoscope/api"
	"praxinoscope/bits"
	"praxinoscope/kind"
	"praxinoscope/prefix"
)

// row is a row of the document's table.
type row struct {
	code  string
	parts api.Parts
}

// table tells the document's table, each row at the place of its kind; none has the kind 0.
func table() []row {
	return []row{
		{},
		{"0001", parts("intra")},
		{"0000001", parts("intra quant")},
		{"1", parts("coded")},
		{"00001", parts("quant coded")},
		{"000000001", parts("vector")},
		{"00000001", parts("vector coded")},
		{"0000000001", parts("quant vector coded")},
		{"001", parts("vector filter")},
		{"01", parts("vector filter coded")},
		{"000001", parts("quant vector filter coded")},
	}
}

// parts tells the parts that words name.
func parts(words string) api.Parts {
	return api.Parts{
		Intra:  strings.Contains(words, "intra"),
		Quant:  strings.Contains(words, "quant"),
		Vector: strings.Contains(words, "vector"),
		Filter: strings.Contains(words, "filter"),
		Coded:  strings.Contains(words, "coded"),
	}
}

// strangers are numbers that are no kinds.
func strangers() []int {
	return []int{0, -1, -2, -3, -9, -10, -11, 11, 12, 13, 20, 100, 255, 256, 257, 266, 65537, 1 << 32, 1<<32 + 1, 1<<32 + 10, -1 << 32, 1<<32 - 1, math.MaxInt32, math.MinInt32, math.MaxInt, math.MaxInt - 1, math.MinInt, math.MinInt + 1, math.MinInt + 10}
}

// chance is a row of numbers that look like chance and are always the same.
type chance uint64

func (c *chance) below(n int) int {
	*c = *c*6364136223846793005 + 1442695040888963407
	return int(uint64(*c) >> 33 % uint64(n))
}

// some tells so many bits of chance.
func (c *chance) some(n int) string {
	s := ""
	for range n {
		s += strconv.Itoa(c.below(2))
	}
	return s
}

// spell tells the bits of b as a text, by the library alone.
func spell(b []byte) string {
	s := ""
	for _, x := range b {
		s += strconv.FormatInt(256+int64(x), 2)[1:]
	}
	return s
}

// pack tells the bytes of a text of bits, with the bits of fill behind it.
func pack(s, fill string) []byte {
	for len(s)%8 != 0 {
		s += fill
	}
	var b []byte
	for i := 0; i < len(s); i += 8 {
		n, err := strconv.ParseUint(s[i:i+8], 2, 8)
		if err != nil {
			panic(err)
		}
		b = append(b, byte(n))
	}
	return b
}

// end tells bytes at whose end a text of bits stands, and the place of its first bit.
func end(s string) ([]byte, int) {
	lacks := (8 - len(s)%8) % 8
	return pack(strings.Repeat("1", lacks)+s, ""), lacks
}

// got looks whether Get answers just this.
func got(t *testing.T, b []byte, at, number, many int, err api.Errno) {
	t.Helper()
	if n, m, e := kind.Get(b, at); n != number || m != many || e != err {
		t.Fatalf("Get(%v, %d): %d, %d, %d, not %d, %d, %d", b, at, n, m, e, number, many, err)
	}
}

// put looks whether Put answers just this.
func put(t *testing.T, number int, code string, err api.Errno) {
	t.Helper()
	if s, e := kind.Put(number); s != code || e != err {
		t.Fatalf("Put(%d): %q, %d, not %q, %d", number, s, e, code, err)
	}
}

// of looks whether Of answers just this.
func of(t *testing.T, number int, want api.Parts, err api.Errno) {
	t.Helper()
	if p, e := kind.Of(number); p != want || e != err {
		t.Fatalf("Of(%d): %v, %d, not %v, %d", number, p, e, want, err)
	}
}

func TestExamples(t *testing.T) {
	got(t, []byte{128}, 0, 3, 1, api.OK)
	got(t, []byte{16}, 0, 1, 4, api.OK)
	got(t, []byte{0, 64}, 0, 7, 10, api.OK)
	got(t, []byte{0}, 0, 0, 0, api.ErrMore)
	got(t, []byte{0, 0}, 0, 0, 0, api.ErrCode)
	put(t, 9, "01", api.OK)
	put(t, 0, "", api.ErrUnknown)
	put(t, 11, "", api.ErrUnknown)
	of(t, 10, api.Parts{Quant: true, Vector: true, Filter: true, Coded: true}, api.OK)
	of(t, 1, api.Parts{Intra: true}, api.OK)
}

// TestNames looks whether the kinds by their names have what their names say.
func TestNames(t *testing.T) {
	for _, x := range []struct {
		kind  int
		code  string
		parts string
	}{
		{api.KindIntra, "0001", "intra"},
		{api.KindIntraQuant, "0000001", "intra quant"},
		{api.KindInter, "1", "coded"},
		{api.KindInterQuant, "00001", "quant coded"},
		{api.KindMotion, "000000001", "vector"},
		{api.KindMotionCoded, "00000001", "vector coded"},
		{api.KindMotionQuant, "0000000001", "vector quant coded"},
		{api.KindFilter, "001", "vector filter"},
		{api.KindFilterCoded, "01", "vector filter coded"},
		{api.KindFilterQuant, "000001", "vector filter quant coded"},
	} {
		put(t, x.kind, x.code, api.OK)
		of(t, x.kind, parts(x.parts), api.OK)
	}
}

// TestTableIsRead gets each code of the table, at each bit of a byte, whatever stands ahead and behind.
func TestTableIsRead(t *testing.T) {
	for number, r := range table()[1:] {
		for at := range 17 {
			for _, ahead := range []string{strings.Repeat("0", at), strings.Repeat("1", at)} {
				got(t, pack(ahead+r.code, "0"), at, number+1, len(r.code), api.OK)
				got(t, pack(ahead+r.code, "1"), at, number+1, len(r.code), api.OK)
				got(t, pack(ahead+r.code+"0000000000", "0"), at, number+1, len(r.code), api.OK)
				got(t, pack(ahead+r.code+"1111111111", "1"), at, number+1, len(r.code), api.OK)
			}
		}
		b, at := end(r.code)
		got(t, b, at, number+1, len(r.code), api.OK)
	}
}

func TestTableIsWritten(t *testing.T) {
	for number, r := range table()[1:] {
		put(t, number+1, r.code, api.OK)
		of(t, number+1, r.parts, api.OK)
	}
}

func TestStrangersAreRefused(t *testing.T) {
	for _, x := range strangers() {
		put(t, x, "", api.ErrUnknown)
		of(t, x, api.Parts{}, api.ErrUnknown)
	}
	for x := -300; x <= 300; x++ {
		if x < 1 || x > 10 {
			put(t, x, "", api.ErrUnknown)
			of(t, x, api.Parts{}, api.ErrUnknown)
		}
	}
}

// TestShortestAndLongest gets the codes of one bit and of ten, with as much as they need and with less.
func TestShortestAndLongest(t *testing.T) {
	got(t, []byte{1}, 7, 3, 1, api.OK)
	got(t, []byte{255}, 7, 3, 1, api.OK)
	got(t, []byte{255, 255}, 8, 3, 1, api.OK)
	got(t, []byte{0, 1}, 6, 7, 10, api.OK)
	got(t, []byte{0, 1}, 7, 5, 9, api.OK)
	got(t, []byte{0, 1}, 5, 0, 0, api.ErrCode)
	got(t, []byte{0, 0}, 6, 0, 0, api.ErrCode)
	got(t, []byte{0, 0}, 7, 0, 0, api.ErrMore)
	got(t, []byte{0, 32}, 0, 0, 0, api.ErrCode)
	got(t, []byte{0, 63}, 0, 0, 0, api.ErrCode)
}

// TestNoughts counts noughts at the end, and ahead of a one.
func TestNoughts(t *testing.T) {
	for n := range 40 {
		for at := range 9 {
			b, place := end(strings.Repeat("1", at) + strings.Repeat("0", n))
			if n < 10 {
				got(t, b, place+at, 0, 0, api.ErrMore)
			} else {
				got(t, b, place+at, 0, 0, api.ErrCode)
			}
			b = pack(strings.Repeat("1", at)+strings.Repeat("0", n)+"1", "1")
			if n >= 10 {
				got(t, b, at, 0, 0, api.ErrCode)
				continue
			}
			if number, many, e := kind.Get(b, at); number == 0 || many != n+1 || e != api.OK {
				t.Fatal("Get behind noughts", n, number, many, e)
			}
		}
	}
}

func TestPlaces(t *testing.T) {
	b := []byte{0b01100010, 0b00000000, 0b01000000}
	for at, want := range []struct {
		number, many int
		err          api.Errno
	}{
		{9, 2, api.OK}, {3, 1, api.OK}, {3, 1, api.OK}, {1, 4, api.OK}, {8, 3, api.OK}, {9, 2, api.OK}, {3, 1, api.OK}, {0, 0, api.ErrCode},
		{7, 10, api.OK}, {5, 9, api.OK}, {6, 8, api.OK}, {2, 7, api.OK}, {10, 6, api.OK}, {4, 5, api.OK}, {1, 4, api.OK}, {8, 3, api.OK},
		{9, 2, api.OK}, {3, 1, api.OK}, {0, 0, api.ErrMore}, {0, 0, api.ErrMore}, {0, 0, api.ErrMore}, {0, 0, api.ErrMore}, {0, 0, api.ErrMore}, {0, 0, api.ErrMore},
	} {
		got(t, b, at, want.number, want.many, want.err)
	}
}

// TestPlacesBehindTheEnd asks where there are no bits: a code may still come.
func TestPlacesBehindTheEnd(t *testing.T) {
	for _, b := range [][]byte{nil, {}, {1}, {0}, {255, 255}, {0, 0, 0}} {
		for _, behind := range []int{0, 1, 7, 8, 9, 1 << 31, 1 << 40, math.MaxInt/8 - 1, math.MaxInt - 40} {
			got(t, b, 8*len(b)+behind, 0, 0, api.ErrMore)
		}
		for _, at := range []int{math.MaxInt - 9, math.MaxInt - 1, math.MaxInt} {
			got(t, b, at, 0, 0, api.ErrMore)
		}
	}
}

// TestPlacesBelowNought asks at places below 0, of bits that would be each other answer.
func TestPlacesBelowNought(t *testing.T) {
	for _, b := range [][]byte{nil, {}, {0}, {128}, {0, 64}, {0, 0}, {0, 63}} {
		for _, at := range []int{-1, -2, -7, -8, -9, -10, -1 << 31, -1 << 40, math.MinInt + 1, math.MinInt} {
			got(t, b, at, 0, 0, api.ErrRange)
		}
	}
}

// plain tells what Get must answer of a text of bits, by the words of the promise.
func plain(s string) (int, int, api.Errno) {
	begins := false
	for number, r := range table()[1:] {
		if strings.HasPrefix(s, r.code) {
			return number + 1, len(r.code), api.OK
		}
		begins = begins || strings.HasPrefix(r.code, s)
	}
	if begins {
		return 0, 0, api.ErrMore
	}
	return 0, 0, api.ErrCode
}

// TestGetOfAllBits gets all there are of up to 13 bits, with nothing behind.
func TestGetOfAllBits(t *testing.T) {
	seen := map[int]int{}
	for n := range 14 {
		for x := range 1 << n {
			s := strconv.FormatInt(int64(1<<n|x), 2)[1:]
			number, many, err := plain(s)
			b, at := end(s)
			got(t, b, at, number, many, err)
			seen[number]++
		}
	}
	if len(seen) != 11 {
		t.Error("some kind never came", seen)
	}
}

// TestGetByChance gets at every place of bytes of chance, in which noughts are many.
func TestGetByChance(t *testing.T) {
	c := chance(5)
	for range 200 {
		s := ""
		for range c.below(8) {
			s += strings.Repeat("0", c.below(13)) + c.some(c.below(6))
		}
		b := pack(s, "0")
		s = spell(b)
		for at := range len(s) + 3 {
			number, many, err := plain(s[min(at, len(s)):])
			got(t, b, at, number, many, err)
		}
	}
}

// TestGetIsATreesGet makes the tree of what Put tells: it may be made, and gets what Get gets.
func TestGetIsATreesGet(t *testing.T) {
	var codes []string
	var numbers []int
	for number := range 12 {
		if code, e := kind.Put(number); e == api.OK {
			codes, numbers = append(codes, code), append(numbers, number)
		}
	}
	tree, e := prefix.Make(codes, numbers)
	if e != api.OK || tree.Codes() != 10 {
		t.Fatal("the codes are no tree of ten", e)
	}
	for x := range 1 << 13 {
		b := []byte{byte(x >> 5), byte(x << 3)}
		for _, at := range []int{-1, 0, 1, 6, 7, 15, 16} {
			number, many, err := tree.Get(b, at)
			got(t, b, at, number, many, err)
		}
	}
}

// TestPutIsGot puts each kind, and gets it whatever stands ahead and behind.
func TestPutIsGot(t *testing.T) {
	c := chance(7)
	for range 100 {
		for number := 1; number <= 10; number++ {
			code, e := kind.Put(number)
			if e != api.OK {
				t.Fatal("Put", number, e)
			}
			at := c.below(20)
			got(t, pack(c.some(at)+code+c.some(c.below(30)), c.some(1)), at, number, len(code), api.OK)
		}
	}
}

// TestCutOff cuts bits off: what was a code becomes ErrMore, or stays.
func TestCutOff(t *testing.T) {
	c := chance(9)
	for number, r := range table()[1:] {
		behind := r.code + c.some(12)
		for n := range len(behind) + 1 {
			b, at := end(behind[:n])
			if n < len(r.code) {
				got(t, b, at, 0, 0, api.ErrMore)
			} else {
				got(t, b, at, number+1, len(r.code), api.OK)
			}
		}
	}
}

// TestManyKinds writes kinds one behind another with a pen, and reads them as they were.
func TestManyKinds(t *testing.T) {
	c := chance(11)
	for range 40 {
		p := bits.NewPen()
		var all []int
		for range c.below(60) {
			number := 1 + c.below(10)
			code, e := kind.Put(number)
			if e != api.OK || p.Code(code) != api.OK {
				t.Fatal("Put", number, e)
			}
			all = append(all, number)
		}
		at := 0
		for _, want := range all {
			number, many, e := kind.Get(p.Bytes(), at)
			if number != want || e != api.OK {
				t.Fatal("Get", at, number, e, "not", want)
			}
			at += many
		}
		if at != p.Len() {
			t.Fatal("read", at, "of", p.Len())
		}
	}
}

// TestNoTwoAreAlike holds all kinds against each other, and the parts of each against what must be.
func TestNoTwoAreAlike(t *testing.T) {
	codes, all := map[string]int{}, map[api.Parts]int{}
	for number := 1; number <= 10; number++ {
		code, e := kind.Put(number)
		p, f := kind.Of(number)
		if e != api.OK || f != api.OK {
			t.Fatal("kind", number, e, f)
		}
		if codes[code] != 0 || all[p] != 0 {
			t.Error("kind", number, "is like", codes[code], all[p])
		}
		codes[code], all[p] = number, number
		if p.Filter && !p.Vector {
			t.Error("kind", number, "is filtered and has no vector")
		}
		if p.Quant && !p.Intra && !p.Coded {
			t.Error("kind", number, "has a quantiser and is neither intra nor coded")
		}
	}
}

// TestGetLeavesBytes looks whether Get looks behind the end, or changes bytes.
func TestGetLeavesBytes(t *testing.T) {
	all := []byte{0, 64, 128}
	got(t, all[:0], 0, 0, 0, api.ErrMore)
	got(t, all[:1], 0, 0, 0, api.ErrMore)
	got(t, all[:1], 7, 0, 0, api.ErrMore)
	got(t, all[:2], 10, 0, 0, api.ErrMore)
	got(t, all[:2], 0, 7, 10, api.OK)
	got(t, all, 10, 2, 7, api.OK)
	if !bytes.Equal(all, []byte{0, 64, 128}) {
		t.Error("bytes were changed", all)
	}
}

// TestAnswersStay asks again and again, also for wrong things: no call tells on another one.
func TestAnswersStay(t *testing.T) {
	c := chance(13)
	for range 300 {
		number := c.below(14) - 1
		if number < 1 || number > 10 {
			put(t, number, "", api.ErrUnknown)
			of(t, number, api.Parts{}, api.ErrUnknown)
			continue
		}
		put(t, number, table()[number].code, api.OK)
		of(t, number, table()[number].parts, api.OK)
		got(t, pack(table()[number].code, "1"), 0, number, len(table()[number].code), api.OK)
	}
}
