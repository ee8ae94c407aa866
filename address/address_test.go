package address_test

import (
	"bytes"
	"math"
	"strconv"
	"strings"
	"testing"

	"praxinoscope/address"
	"praxinoscope/api"
	"praxinoscope/bits"
	"praxinoscope/prefix"
)

// noughts are so many noughts as begin a start.
const noughts = "000000000000000"

// table tells the codes of the document's table, each at the place of its difference, and stuffing at 0.
func table() []string {
	return []string{
		"00000001111",
		"1", "011", "010", "0011", "0010", "00011", "00010", "0000111", "0000110", "00001011", "00001010",
		"00001001", "00001000", "00000111", "00000110", "0000010111", "0000010110", "0000010101", "0000010100", "0000010011", "0000010010", "00000100011",
		"00000100010", "00000100001", "00000100000", "00000011111", "00000011110", "00000011101", "00000011100", "00000011011", "00000011010", "00000011001", "00000011000",
	}
}

// chance is a row of numbers that look like chance and are always the same.
type chance uint64

func (c *chance) below(n int) int {
	*c = *c*6364136223846793005 + 1442695040888963407
	return int(uint64(*c) >> 33 % uint64(n))
}

// some tells so many bits of chance.
func (c *chance) some(n int) string {
	s := ""
	for range n {
		s += strconv.Itoa(c.below(2))
	}
	return s
}

// spell tells the bits of b as a text, by the library alone.
func spell(b []byte) string {
	s := ""
	for _, x := range b {
		s += strconv.FormatInt(256+int64(x), 2)[1:]
	}
	return s
}

// pack tells the bytes of a text of bits, with the bits of fill behind it.
func pack(s, fill string) []byte {
	for len(s)%8 != 0 {
		s += fill
	}
	var b []byte
	for i := 0; i < len(s); i += 8 {
		n, err := strconv.ParseUint(s[i:i+8], 2, 8)
		if err != nil {
			panic(err)
		}
		b = append(b, byte(n))
	}
	return b
}

// end tells bytes at whose end a text of bits stands, and the place of its first bit.
func end(s string) ([]byte, int) {
	lacks := (8 - len(s)%8) % 8
	return pack(strings.Repeat("1", lacks)+s, ""), lacks
}

// got looks whether Get answers just this.
func got(t *testing.T, b []byte, at, number, many int, err api.Errno) {
	t.Helper()
	if n, m, e := address.Get(b, at); n != number || m != many || e != err {
		t.Fatalf("Get(%v, %d): %d, %d, %d, not %d, %d, %d", b, at, n, m, e, number, many, err)
	}
}

// put looks whether Put answers just this.
func put(t *testing.T, difference int, code string, err api.Errno) {
	t.Helper()
	if s, e := address.Put(difference); s != code || e != err {
		t.Fatalf("Put(%d): %q, %d, not %q, %d", difference, s, e, code, err)
	}
}

// next looks whether Next answers just this.
func next(t *testing.T, from, difference, want int, err api.Errno) {
	t.Helper()
	if n, e := address.Next(from, difference); n != want || e != err {
		t.Fatalf("Next(%d, %d): %d, %d, not %d, %d", from, difference, n, e, want, err)
	}
}

// row looks whether Row answers just this.
func row(t *testing.T, place, wantRow, wantColumn int, err api.Errno) {
	t.Helper()
	if r, c, e := address.Row(place); r != wantRow || c != wantColumn || e != err {
		t.Fatalf("Row(%d): %d, %d, %d, not %d, %d, %d", place, r, c, e, wantRow, wantColumn, err)
	}
}

func TestExamples(t *testing.T) {
	got(t, []byte{128}, 0, 1, 1, api.OK)
	got(t, []byte{96}, 0, 2, 3, api.OK)
	got(t, []byte{4}, 0, 0, 0, api.ErrMore)
	got(t, []byte{2}, 0, 0, 0, api.ErrCode)
	got(t, []byte{1, 224}, 0, 0, 11, api.OK)
	got(t, []byte{0, 1}, 0, 34, 0, api.OK)
	got(t, []byte{0}, 0, 0, 0, api.ErrMore)
	got(t, []byte{0, 4}, 0, 0, 0, api.ErrCode)
	put(t, 1, "1", api.OK)
	put(t, 33, "00000011000", api.OK)
	put(t, 0, "00000001111", api.OK)
	put(t, 34, "", api.ErrRange)
	put(t, -1, "", api.ErrRange)
	next(t, 0, 1, 1, api.OK)
	next(t, 30, 3, 33, api.OK)
	next(t, 30, 4, 0, api.ErrAddress)
	next(t, 3, 0, 0, api.ErrRange)
	row(t, 1, 0, 0, api.OK)
	row(t, 12, 1, 0, api.OK)
	row(t, 33, 2, 10, api.OK)
	row(t, 0, 0, 0, api.ErrRange)
}

// TestTableIsRead gets each code of the table and stuffing, at each bit of a byte, whatever stands ahead and behind.
func TestTableIsRead(t *testing.T) {
	for number, code := range table() {
		for at := range 17 {
			for _, ahead := range []string{strings.Repeat("0", at), strings.Repeat("1", at)} {
				got(t, pack(ahead+code, "0"), at, number, len(code), api.OK)
				got(t, pack(ahead+code, "1"), at, number, len(code), api.OK)
				got(t, pack(ahead+code+noughts+"1", "0"), at, number, len(code), api.OK)
				got(t, pack(ahead+code+"111111111", "1"), at, number, len(code), api.OK)
			}
		}
		b, at := end(code)
		got(t, b, at, number, len(code), api.OK)
	}
}

func TestTableIsWritten(t *testing.T) {
	for difference, code := range table() {
		put(t, difference, code, api.OK)
	}
}

func TestPutRefuses(t *testing.T) {
	for _, difference := range []int{-1, -2, -33, -34, 34, 35, 36, 66, 255, 256, 1 << 32, 1<<32 + 1, -1 << 32, math.MaxInt, math.MinInt, math.MinInt + 1} {
		put(t, difference, "", api.ErrRange)
	}
}

func TestGetPlaces(t *testing.T) {
	b := []byte{0b01101010, 0b00110010, 0b10000000}
	for at, want := range []struct {
		number, many int
		err          api.Errno
	}{
		{2, 3, api.OK}, {1, 1, api.OK}, {1, 1, api.OK}, {3, 3, api.OK}, {1, 1, api.OK}, {3, 3, api.OK}, {1, 1, api.OK}, {6, 5, api.OK},
		{4, 4, api.OK}, {2, 3, api.OK}, {1, 1, api.OK}, {1, 1, api.OK}, {5, 4, api.OK}, {3, 3, api.OK}, {1, 1, api.OK}, {3, 3, api.OK},
		{1, 1, api.OK}, {0, 0, api.ErrMore}, {0, 0, api.ErrMore},
	} {
		got(t, b, at, want.number, want.many, want.err)
	}
	for _, b := range [][]byte{nil, {}, {1}, {0}, {255, 255}, {0, 0, 0}} {
		for _, behind := range []int{0, 1, 7, 8, 1 << 31, 1 << 40, math.MaxInt/8 - 1, math.MaxInt - 40} {
			got(t, b, 8*len(b)+behind, 0, 0, api.ErrMore)
		}
		for _, at := range []int{math.MaxInt - 15, math.MaxInt - 1, math.MaxInt} {
			got(t, b, at, 0, 0, api.ErrMore)
		}
	}
}

// TestGetRefusesPlaces asks at places below 0, of bits that would be each other answer.
func TestGetRefusesPlaces(t *testing.T) {
	for _, b := range [][]byte{nil, {}, {0}, {4}, {2}, {0, 4}, {128}, {1, 224}, {0, 1}} {
		for _, at := range []int{-1, -7, -8, -9, -1 << 31, -1 << 40, math.MinInt + 1, math.MinInt} {
			got(t, b, at, 0, 0, api.ErrRange)
		}
	}
}

// TestStuffing tells stuffing from what differs of it in any one bit.
func TestStuffing(t *testing.T) {
	code := table()[0]
	for i := range code {
		other := code[:i] + string('0'+'1'-code[i]) + code[i+1:]
		b := pack(other, "1")
		if n, m, e := address.Get(b, 0); n == 0 && m == 11 && e == api.OK {
			t.Errorf("Get of %s is stuffing", other)
		}
	}
	got(t, pack(code+code+"1", "1"), 0, 0, 11, api.OK)
	got(t, pack(code+code+"1", "1"), 11, 0, 11, api.OK)
	got(t, pack(code+code+"1", "1"), 22, 1, 1, api.OK)
	got(t, pack("0"+code, "1"), 0, 0, 0, api.ErrCode)
}

// TestNoughts counts noughts at the end, and ahead of a one.
func TestNoughts(t *testing.T) {
	for n := range 40 {
		for at := range 9 {
			b, place := end(strings.Repeat("1", at) + strings.Repeat("0", n))
			if n < 15 {
				got(t, b, place+at, 0, 0, api.ErrMore)
			} else {
				got(t, b, place+at, 34, 0, api.OK)
			}
			b = pack(strings.Repeat("1", at)+strings.Repeat("0", n)+"1", "1")
			switch {
			case n >= 15:
				got(t, b, at, 34, 0, api.OK)
			case n >= 8:
				got(t, b, at, 0, 0, api.ErrCode)
			}
		}
	}
	got(t, []byte{0, 2}, 0, 0, 0, api.ErrCode)
	got(t, []byte{0, 0}, 0, 34, 0, api.OK)
	got(t, []byte{0, 0}, 1, 34, 0, api.OK)
	got(t, []byte{0, 0}, 2, 0, 0, api.ErrMore)
}

// plain tells what Get must answer of a text of bits, by the words of the promise.
func plain(s string) (int, int, api.Errno) {
	begins := strings.HasPrefix(noughts, s)
	for number, code := range table() {
		if strings.HasPrefix(s, code) {
			return number, len(code), api.OK
		}
		begins = begins || strings.HasPrefix(code, s)
	}
	switch {
	case strings.HasPrefix(s, noughts):
		return 34, 0, api.OK
	case begins:
		return 0, 0, api.ErrMore
	}
	return 0, 0, api.ErrCode
}

// TestGetOfAllBits gets all there are of up to 16 bits, with nothing behind.
func TestGetOfAllBits(t *testing.T) {
	seen := map[api.Errno]int{}
	for n := range 17 {
		for x := range 1 << n {
			s := strconv.FormatInt(int64(1<<n|x), 2)[1:]
			number, many, err := plain(s)
			b, at := end(s)
			got(t, b, at, number, many, err)
			seen[err]++
		}
	}
	if len(seen) != 3 || seen[api.OK] == 0 || seen[api.ErrMore] == 0 || seen[api.ErrCode] == 0 {
		t.Error("something never came", seen)
	}
}

// TestGetByChance gets at every place of bytes of chance.
func TestGetByChance(t *testing.T) {
	c := chance(4)
	for range 300 {
		s := ""
		for range c.below(8) {
			s += strings.Repeat("0", c.below(18)) + c.some(c.below(6))
		}
		b := pack(s, "0")
		s = spell(b)
		for at := range len(s) + 3 {
			number, many, err := plain(s[min(at, len(s)):])
			got(t, b, at, number, many, err)
		}
	}
}

// TestGetLeavesBytes looks whether Get looks behind the end, or changes bytes.
func TestGetLeavesBytes(t *testing.T) {
	all := []byte{1, 224, 0, 1}
	got(t, all[:1], 0, 0, 0, api.ErrMore)
	got(t, all[:2], 0, 0, 11, api.OK)
	got(t, all[:3], 13, 0, 0, api.ErrMore)
	got(t, all, 16, 34, 0, api.OK)
	if !bytes.Equal(all, []byte{1, 224, 0, 1}) {
		t.Error("bytes were changed", all)
	}
}

// TestNext adds all that may be, and some that may not.
func TestNext(t *testing.T) {
	for from := -40; from <= 80; from++ {
		for difference := -40; difference <= 80; difference++ {
			switch {
			case from < 0 || from > 33 || difference < 1 || difference > 33:
				next(t, from, difference, 0, api.ErrRange)
			case from+difference > 33:
				next(t, from, difference, 0, api.ErrAddress)
			default:
				next(t, from, difference, from+difference, api.OK)
			}
		}
	}
}

func TestNextEdges(t *testing.T) {
	for _, x := range []struct {
		from, difference, want int
		err                    api.Errno
	}{
		{0, 1, 1, api.OK}, {0, 33, 33, api.OK}, {32, 1, 33, api.OK}, {1, 32, 33, api.OK}, {1, 1, 2, api.OK}, {17, 16, 33, api.OK}, {16, 17, 33, api.OK},
		{33, 1, 0, api.ErrAddress}, {1, 33, 0, api.ErrAddress}, {33, 33, 0, api.ErrAddress}, {32, 2, 0, api.ErrAddress}, {17, 17, 0, api.ErrAddress},
		{0, 0, 0, api.ErrRange}, {33, 0, 0, api.ErrRange}, {0, 34, 0, api.ErrRange}, {33, 34, 0, api.ErrRange}, {34, 1, 0, api.ErrRange}, {34, 33, 0, api.ErrRange},
		{34, -1, 0, api.ErrRange}, {-1, 1, 0, api.ErrRange}, {-1, 34, 0, api.ErrRange}, {1, -1, 0, api.ErrRange}, {34, 0, 0, api.ErrRange},
	} {
		next(t, x.from, x.difference, x.want, x.err)
	}
}

// TestNextOfGreatNumbers adds numbers whose sum leaves an int, or comes back to a place.
func TestNextOfGreatNumbers(t *testing.T) {
	great := []int{math.MaxInt, math.MaxInt - 1, math.MaxInt - 32, math.MinInt, math.MinInt + 1, math.MinInt + 33, 1 << 32, 1<<32 + 1, -1 << 32, 1 << 62, -1 << 62}
	for _, x := range great {
		for _, y := range []int{0, 1, 2, 32, 33, 34, -1} {
			next(t, x, y, 0, api.ErrRange)
			next(t, y, x, 0, api.ErrRange)
		}
		for _, y := range great {
			next(t, x, y, 0, api.ErrRange)
		}
	}
}

func TestRow(t *testing.T) {
	place := 0
	for wantRow := range 3 {
		for wantColumn := range 11 {
			place++
			row(t, place, wantRow, wantColumn, api.OK)
		}
	}
	for _, x := range []int{0, -1, -10, -11, -33, 34, 35, 44, 45, 1 << 32, 1<<32 + 1, -1 << 32, math.MaxInt, math.MinInt, math.MinInt + 1} {
		row(t, x, 0, 0, api.ErrRange)
	}
}

// TestNoCodeBeginsAnother makes a tree of all codes and of 15 noughts: it may be made, and gets what Get gets.
func TestNoCodeBeginsAnother(t *testing.T) {
	var codes []string
	var numbers []int
	for difference := range 34 {
		code, e := address.Put(difference)
		if e != api.OK {
			t.Fatal("Put", difference, e)
		}
		codes, numbers = append(codes, code), append(numbers, difference)
	}
	tree, e := prefix.Make(append(codes, noughts), append(numbers, 34))
	if e != api.OK {
		t.Fatal("the codes are no tree", e)
	}
	for x := range 1 << 16 {
		b := []byte{byte(x >> 8), byte(x)}
		for _, at := range []int{0, 1, 5} {
			number, many, err := tree.Get(b, at)
			if number == 34 {
				many = 0
			}
			got(t, b, at, number, many, err)
		}
	}
}

// TestPutIsGot puts each number, and gets it whatever stands ahead and behind.
func TestPutIsGot(t *testing.T) {
	c := chance(6)
	for range 200 {
		for difference := range 34 {
			code, e := address.Put(difference)
			if e != api.OK {
				t.Fatal("Put", difference, e)
			}
			at := c.below(20)
			got(t, pack(c.some(at)+code+c.some(c.below(30)), c.some(1)), at, difference, len(code), api.OK)
		}
	}
}

// TestCutOff cuts bits off: what was a code becomes ErrMore, or stays.
func TestCutOff(t *testing.T) {
	c := chance(8)
	for number, code := range append(table(), noughts) {
		many := len(code)
		if number == 34 {
			many = 0
		}
		behind := code + c.some(12)
		for n := range len(behind) + 1 {
			b, at := end(behind[:n])
			if n < len(code) {
				got(t, b, at, 0, 0, api.ErrMore)
			} else {
				got(t, b, at, number, many, api.OK)
			}
		}
	}
}

// TestNoneIsGotAtStarts looks for starts in bits that have many noughts: at each of them 34 is got, and nothing is taken.
func TestNoneIsGotAtStarts(t *testing.T) {
	for number := range 16 {
		for more := range 20 {
			p := bits.NewPen()
			p.Code(strings.Repeat("1", more) + strings.Repeat("0", more) + noughts + "1")
			p.Put(number, 4)
			at, e := bits.Find(p.Bytes(), 0)
			if at != 2*more || e != api.OK {
				t.Fatal("Find", at, e)
			}
			for place := more; place <= at; place++ {
				if n, _, e := bits.Start(p.Bytes(), place); n != number || e != api.OK {
					t.Fatal("Start", place, n, e)
				}
				got(t, p.Bytes(), place, 34, 0, api.OK)
			}
		}
	}
}

// TestRisingAddresses writes addresses that rise as their differences, stuffing among them, and reads them as they were.
func TestRisingAddresses(t *testing.T) {
	c := chance(10)
	for round := range 300 {
		var places []int
		for place := 1; place <= 33; place++ {
			if c.below(1+round%7) == 0 {
				places = append(places, place)
			}
		}
		p, last := bits.NewPen(), 0
		for _, place := range places {
			for c.below(4) == 0 {
				p.Code(table()[0])
			}
			code, e := address.Put(place - last)
			if e != api.OK || p.Code(code) != api.OK {
				t.Fatal("Put", place-last, e)
			}
			last = place
		}
		p.Put(1, 16)
		at, last := 0, 0
		for _, place := range places {
			difference, many, e := address.Get(p.Bytes(), at)
			for difference == 0 && e == api.OK {
				at += many
				difference, many, e = address.Get(p.Bytes(), at)
			}
			if e != api.OK {
				t.Fatal("Get", at, e)
			}
			next(t, last, difference, place, api.OK)
			at, last = at+many, place
		}
		got(t, p.Bytes(), at, 34, 0, api.OK)
	}
}
