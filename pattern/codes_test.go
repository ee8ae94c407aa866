package pattern_test

import (
	"bytes"
	"math"
	"strconv"
	"strings"
	"testing"

	"praxinoscope/api"
	"praxinoscope/bits"
	"praxinoscope/pattern"
	"praxinoscope/prefix"
)

// table tells the codes of the document's table, each at the place of its pattern; none has the pattern 0.
func table() []string {
	rows := []string{
		"",
		"01011, 01001, 001101, 1101, 0010111, 0010011, 00011111, 1100",
		"0010110, 0010010, 00011110, 10011, 00011011, 00010111, 00010011, 1011",
		"0010101, 0010001, 00011101, 10001, 00011001, 00010101, 00010001, 001111",
		"00001111, 00001101, 000000011, 01111, 00001011, 00000111, 000000111, 1010",
		"0010100, 0010000, 00011100, 001110, 00001110, 00001100, 000000010, 10000",
		"00011000, 00010100, 00010000, 01110, 00001010, 00000110, 000000110, 10010",
		"00011010, 00010110, 00010010, 01101, 00001001, 00000101, 000000101, 01100",
		"00001000, 00000100, 000000100, 111, 01010, 01000, 001100",
	}
	return strings.Split(strings.Join(rows, ", "), ", ")
}

// chance is a row of numbers that look like chance and are always the same.
type chance uint64

func (c *chance) below(n int) int {
	*c = *c*6364136223846793005 + 1442695040888963407
	return int(uint64(*c) >> 33 % uint64(n))
}

// some tells so many bits of chance.
func (c *chance) some(n int) string {
	s := ""
	for range n {
		s += strconv.Itoa(c.below(2))
	}
	return s
}

// spell tells the bits of b as a text, by the library alone.
func spell(b []byte) string {
	s := ""
	for _, x := range b {
		s += strconv.FormatInt(256+int64(x), 2)[1:]
	}
	return s
}

// pack tells the bytes of a text of bits, with the bits of fill behind it.
func pack(s, fill string) []byte {
	for len(s)%8 != 0 {
		s += fill
	}
	var b []byte
	for i := 0; i < len(s); i += 8 {
		n, err := strconv.ParseUint(s[i:i+8], 2, 8)
		if err != nil {
			panic(err)
		}
		b = append(b, byte(n))
	}
	return b
}

// end tells bytes at whose end a text of bits stands, and the place of its first bit.
func end(s string) ([]byte, int) {
	lacks := (8 - len(s)%8) % 8
	return pack(strings.Repeat("1", lacks)+s, ""), lacks
}

// got looks whether Get answers just this.
func got(t *testing.T, b []byte, at, number, many int, err api.Errno) {
	t.Helper()
	if n, m, e := pattern.Get(b, at); n != number || m != many || e != err {
		t.Fatalf("Get(%v, %d): %d, %d, %d, not %d, %d, %d", b, at, n, m, e, number, many, err)
	}
}

// put looks whether Put answers just this.
func put(t *testing.T, number int, code string, err api.Errno) {
	t.Helper()
	if s, e := pattern.Put(number); s != code || e != err {
		t.Fatalf("Put(%d): %q, %d, not %q, %d", number, s, e, code, err)
	}
}

func TestCodeExamples(t *testing.T) {
	got(t, []byte{224}, 0, 60, 3, api.OK)
	got(t, []byte{1, 0}, 0, 39, 9, api.OK)
	got(t, []byte{0, 0}, 0, 0, 0, api.ErrCode)
	got(t, []byte{1}, 0, 0, 0, api.ErrMore)
	put(t, 1, "01011", api.OK)
	put(t, 63, "001100", api.OK)
	put(t, 0, "", api.ErrUnknown)
	put(t, 64, "", api.ErrUnknown)
}

// TestTableIsWhole looks whether the tests' own table has a code for each pattern, and no two that are alike.
func TestTableIsWhole(t *testing.T) {
	seen := map[string]int{}
	for number, code := range table() {
		if number > 0 && (code == "" || seen[code] != 0) {
			t.Error("pattern", number, code, seen[code])
		}
		seen[code] = number
	}
	if len(table()) != 64 {
		t.Error("the table has", len(table())-1)
	}
}

func TestTableIsWritten(t *testing.T) {
	for number, code := range table()[1:] {
		put(t, number+1, code, api.OK)
	}
}

// TestTableIsRead gets each code of the table, at each bit of a byte, whatever stands ahead and behind.
func TestTableIsRead(t *testing.T) {
	for number, code := range table()[1:] {
		for at := range 9 {
			for _, ahead := range []string{strings.Repeat("0", at), strings.Repeat("1", at)} {
				got(t, pack(ahead+code, "0"), at, number+1, len(code), api.OK)
				got(t, pack(ahead+code, "1"), at, number+1, len(code), api.OK)
				got(t, pack(ahead+code+"0000000000", "0"), at, number+1, len(code), api.OK)
				got(t, pack(ahead+code+"1111111111", "1"), at, number+1, len(code), api.OK)
			}
		}
		b, at := end(code)
		got(t, b, at, number+1, len(code), api.OK)
	}
}

func TestStrangersAreNotWritten(t *testing.T) {
	for _, x := range strangers() {
		put(t, x, "", api.ErrUnknown)
	}
	for x := -400; x <= 400; x++ {
		if x < 1 || x > 63 {
			put(t, x, "", api.ErrUnknown)
		}
	}
}

// TestNoughts counts noughts at the end, and ahead of a one: eight are no code, and fewer are the beginning of one.
func TestNoughts(t *testing.T) {
	for n := range 40 {
		for at := range 9 {
			b, place := end(strings.Repeat("1", at) + strings.Repeat("0", n))
			if n < 8 {
				got(t, b, place+at, 0, 0, api.ErrMore)
			} else {
				got(t, b, place+at, 0, 0, api.ErrCode)
			}
			b = pack(strings.Repeat("1", at)+strings.Repeat("0", n)+"11111", "1")
			if n >= 8 {
				got(t, b, at, 0, 0, api.ErrCode)
				continue
			}
			if number, _, e := pattern.Get(b, at); number == 0 || e != api.OK {
				t.Fatal("Get behind noughts", n, number, e)
			}
		}
	}
	got(t, []byte{0}, 0, 0, 0, api.ErrCode)
	got(t, []byte{0}, 1, 0, 0, api.ErrMore)
	got(t, []byte{0, 255}, 0, 0, 0, api.ErrCode)
	got(t, []byte{0, 255}, 1, 27, 9, api.OK)
}

// TestShortestAndLongest gets the code of three bits and those of nine, with as much as they need and with less.
func TestShortestAndLongest(t *testing.T) {
	got(t, []byte{7}, 5, 60, 3, api.OK)
	got(t, []byte{7}, 6, 0, 0, api.ErrMore)
	got(t, []byte{7}, 7, 0, 0, api.ErrMore)
	got(t, []byte{7, 128}, 6, 60, 3, api.OK)
	for _, x := range []struct {
		code   string
		number int
	}{{"000000010", 39}, {"000000011", 27}, {"000000100", 59}, {"000000101", 55}, {"000000110", 47}, {"000000111", 31}} {
		b, at := end(x.code)
		got(t, b, at, x.number, 9, api.OK)
		b, at = end(x.code[:8])
		got(t, b, at, 0, 0, api.ErrMore)
	}
}

func TestPlaces(t *testing.T) {
	b := []byte{0b11101000, 0b00001101}
	for at, want := range []struct {
		number, many int
		err          api.Errno
	}{
		{60, 3, api.OK}, {4, 4, api.OK}, {32, 4, api.OK}, {62, 5, api.OK}, {40, 5, api.OK}, {27, 9, api.OK}, {47, 9, api.OK}, {46, 8, api.OK},
		{26, 8, api.OK}, {0, 0, api.ErrMore}, {3, 6, api.OK}, {52, 5, api.OK}, {4, 4, api.OK}, {0, 0, api.ErrMore}, {0, 0, api.ErrMore}, {0, 0, api.ErrMore},
		{0, 0, api.ErrMore}, {0, 0, api.ErrMore},
	} {
		got(t, b, at, want.number, want.many, want.err)
	}
}

// TestPlacesBehindTheEnd asks where there are no bits: a code may still come.
func TestPlacesBehindTheEnd(t *testing.T) {
	for _, b := range [][]byte{nil, {}, {1}, {0}, {255, 255}, {0, 0, 0}} {
		for _, behind := range []int{0, 1, 7, 8, 9, 1 << 31, 1 << 40, math.MaxInt/8 - 1, math.MaxInt - 40} {
			got(t, b, 8*len(b)+behind, 0, 0, api.ErrMore)
		}
		for _, at := range []int{math.MaxInt - 9, math.MaxInt - 1, math.MaxInt} {
			got(t, b, at, 0, 0, api.ErrMore)
		}
	}
}

// TestPlacesBelowNought asks at places below 0, of bits that would be each other answer.
func TestPlacesBelowNought(t *testing.T) {
	for _, b := range [][]byte{nil, {}, {0}, {224}, {1}, {1, 0}, {0, 0}, {0, 255}} {
		for _, at := range []int{-1, -2, -7, -8, -9, -10, -63, -1 << 31, -1 << 40, math.MinInt + 1, math.MinInt} {
			got(t, b, at, 0, 0, api.ErrRange)
		}
	}
}

// plain tells what Get must answer of a text of bits, by the words of the promise.
func plain(s string) (int, int, api.Errno) {
	begins := false
	for number, code := range table()[1:] {
		if strings.HasPrefix(s, code) {
			return number + 1, len(code), api.OK
		}
		begins = begins || strings.HasPrefix(code, s)
	}
	if begins {
		return 0, 0, api.ErrMore
	}
	return 0, 0, api.ErrCode
}

// TestGetOfAllBits gets all there are of up to 11 bits, with nothing behind.
func TestGetOfAllBits(t *testing.T) {
	seen := map[int]int{}
	for n := range 12 {
		for x := range 1 << n {
			s := strconv.FormatInt(int64(1<<n|x), 2)[1:]
			number, many, err := plain(s)
			b, at := end(s)
			got(t, b, at, number, many, err)
			seen[number]++
		}
	}
	if len(seen) != 64 {
		t.Error("some pattern never came", seen)
	}
}

// TestGetByChance gets at every place of bytes of chance, in which noughts are many.
func TestGetByChance(t *testing.T) {
	c := chance(5)
	for range 60 {
		s := ""
		for range c.below(8) {
			s += strings.Repeat("0", c.below(11)) + c.some(c.below(8))
		}
		b := pack(s, "0")
		s = spell(b)
		for at := range len(s) + 3 {
			number, many, err := plain(s[min(at, len(s)):])
			got(t, b, at, number, many, err)
		}
	}
}

// TestGetIsATreesGet makes the tree of what Put tells: it may be made, and gets what Get gets.
func TestGetIsATreesGet(t *testing.T) {
	var codes []string
	var numbers []int
	for number := range 66 {
		if code, e := pattern.Put(number); e == api.OK {
			codes, numbers = append(codes, code), append(numbers, number)
		}
	}
	tree, e := prefix.Make(codes, numbers)
	if e != api.OK || tree.Codes() != 63 {
		t.Fatal("the codes are no tree of 63", e)
	}
	for x := range 1 << 10 {
		b := []byte{byte(x >> 2), byte(x << 6)}
		for _, at := range []int{-1, 0, 1, 7, 8, 15, 16} {
			number, many, err := tree.Get(b, at)
			got(t, b, at, number, many, err)
		}
	}
}

// TestPutIsGot puts each pattern, and gets it whatever stands ahead and behind.
func TestPutIsGot(t *testing.T) {
	c := chance(7)
	for range 20 {
		for number := 1; number <= 63; number++ {
			code, e := pattern.Put(number)
			if e != api.OK {
				t.Fatal("Put", number, e)
			}
			at := c.below(20)
			got(t, pack(c.some(at)+code+c.some(c.below(30)), c.some(1)), at, number, len(code), api.OK)
		}
	}
}

// TestCutOff cuts bits off: what was a code becomes ErrMore, or stays.
func TestCutOff(t *testing.T) {
	c := chance(9)
	for number, code := range table()[1:] {
		behind := code + c.some(12)
		for n := range len(behind) + 1 {
			b, at := end(behind[:n])
			if n < len(code) {
				got(t, b, at, 0, 0, api.ErrMore)
			} else {
				got(t, b, at, number+1, len(code), api.OK)
			}
		}
	}
}

// TestManyPatterns writes patterns one behind another with a pen, and reads them as they were.
func TestManyPatterns(t *testing.T) {
	c := chance(11)
	for range 20 {
		p := bits.NewPen()
		var all []int
		for range c.below(60) {
			number := 1 + c.below(63)
			code, e := pattern.Put(number)
			if e != api.OK || p.Code(code) != api.OK {
				t.Fatal("Put", number, e)
			}
			all = append(all, number)
		}
		at := 0
		for _, want := range all {
			number, many, e := pattern.Get(p.Bytes(), at)
			if number != want || e != api.OK {
				t.Fatal("Get", at, number, e, "not", want)
			}
			at += many
		}
		if at != p.Len() {
			t.Fatal("read", at, "of", p.Len())
		}
	}
}

// TestGetLeavesBytes looks whether Get looks behind the end, or changes bytes.
func TestGetLeavesBytes(t *testing.T) {
	all := []byte{1, 0, 224}
	got(t, all[:0], 0, 0, 0, api.ErrMore)
	got(t, all[:1], 0, 0, 0, api.ErrMore)
	got(t, all[:1], 8, 0, 0, api.ErrMore)
	got(t, all[:2], 0, 39, 9, api.OK)
	got(t, all[:2], 9, 0, 0, api.ErrMore)
	got(t, all, 9, 27, 9, api.OK)
	got(t, all, 16, 60, 3, api.OK)
	if !bytes.Equal(all, []byte{1, 0, 224}) {
		t.Error("bytes were changed", all)
	}
}

// TestAnswersStay asks again and again, also for wrong things: no call tells on another one.
func TestAnswersStay(t *testing.T) {
	c := chance(13)
	for range 300 {
		number := c.below(70) - 3
		if number < 1 || number > 63 {
			put(t, number, "", api.ErrUnknown)
			got(t, []byte{0, byte(number)}, 0, 0, 0, api.ErrCode)
			continue
		}
		code := table()[number]
		put(t, number, code, api.OK)
		got(t, pack(code, "1"), 0, number, len(code), api.OK)
		got(t, pack(code, "1"), -1, 0, 0, api.ErrRange)
	}
}
