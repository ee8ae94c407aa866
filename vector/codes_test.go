package vector_test

import (
	"bytes"
	"math"
	"strconv"
	"strings"
	"testing"

	"praxinoscope/api"
	"praxinoscope/bits"
	"praxinoscope/prefix"
	"praxinoscope/vector"
)

// table tells the codes of the document's table, from that of -16 on.
func table() []string {
	return []string{
		"00000011001", "00000011011", "00000011101", "00000011111", "00000100001", "00000100011", "0000010011", "0000010101",
		"0000010111", "00000111", "00001001", "00001011", "0000111", "00011", "0011", "011",
		"1", "010", "0010", "00010", "0000110", "00001010", "00001000", "00000110",
		"0000010110", "0000010100", "0000010010", "00000100010", "00000100000", "00000011110", "00000011100", "00000011010",
	}
}

// chance is a row of numbers that look like chance and are always the same.
type chance uint64

func (c *chance) below(n int) int {
	*c = *c*6364136223846793005 + 1442695040888963407
	return int(uint64(*c) >> 33 % uint64(n))
}

// some tells so many bits of chance.
func (c *chance) some(n int) string {
	s := ""
	for range n {
		s += strconv.Itoa(c.below(2))
	}
	return s
}

// spell tells the bits of b as a text, by the library alone.
func spell(b []byte) string {
	s := ""
	for _, x := range b {
		s += strconv.FormatInt(256+int64(x), 2)[1:]
	}
	return s
}

// pack tells the bytes of a text of bits, with the bits of fill behind it.
func pack(s, fill string) []byte {
	for len(s)%8 != 0 {
		s += fill
	}
	var b []byte
	for i := 0; i < len(s); i += 8 {
		n, err := strconv.ParseUint(s[i:i+8], 2, 8)
		if err != nil {
			panic(err)
		}
		b = append(b, byte(n))
	}
	return b
}

// end tells bytes at whose end a text of bits stands, and the place of its first bit.
func end(s string) ([]byte, int) {
	lacks := (8 - len(s)%8) % 8
	return pack(strings.Repeat("1", lacks)+s, ""), lacks
}

// got looks whether Get answers just this.
func got(t *testing.T, b []byte, at, difference, many int, err api.Errno) {
	t.Helper()
	if n, m, e := vector.Get(b, at); n != difference || m != many || e != err {
		t.Fatalf("Get(%v, %d): %d, %d, %d, not %d, %d, %d", b, at, n, m, e, difference, many, err)
	}
}

// put looks whether Put answers just this.
func put(t *testing.T, difference int, code string, err api.Errno) {
	t.Helper()
	if s, e := vector.Put(difference); s != code || e != err {
		t.Fatalf("Put(%d): %q, %d, not %q, %d", difference, s, e, code, err)
	}
}

// plain tells what Get must answer of a text of bits, by the words of the promise.
func plain(s string) (int, int, api.Errno) {
	begins := false
	for i, code := range table() {
		if strings.HasPrefix(s, code) {
			return i - 16, len(code), api.OK
		}
		begins = begins || strings.HasPrefix(code, s)
	}
	if begins {
		return 0, 0, api.ErrMore
	}
	return 0, 0, api.ErrCode
}

func TestCodeExamples(t *testing.T) {
	got(t, []byte{128}, 0, 0, 1, api.OK)
	got(t, []byte{64}, 0, 1, 3, api.OK)
	got(t, []byte{96}, 0, -1, 3, api.OK)
	got(t, []byte{3, 32}, 0, -16, 11, api.OK)
	got(t, []byte{0, 255}, 0, 0, 0, api.ErrCode)
	got(t, []byte{3}, 0, 0, 0, api.ErrMore)
	put(t, 0, "1", api.OK)
	put(t, -16, "00000011001", api.OK)
	put(t, 15, "00000011010", api.OK)
	put(t, 16, "", api.ErrRange)
}

// TestTableIsRead gets each code of the table, at each bit of a byte, whatever stands ahead and behind.
func TestTableIsRead(t *testing.T) {
	for i, code := range table() {
		for at := range 17 {
			for _, ahead := range []string{strings.Repeat("0", at), strings.Repeat("1", at)} {
				got(t, pack(ahead+code, "0"), at, i-16, len(code), api.OK)
				got(t, pack(ahead+code, "1"), at, i-16, len(code), api.OK)
				got(t, pack(ahead+code+strings.Repeat("0", 20), "1"), at, i-16, len(code), api.OK)
				got(t, pack(ahead+code+strings.Repeat("1", 20), "0"), at, i-16, len(code), api.OK)
			}
		}
		b, at := end(code)
		got(t, b, at, i-16, len(code), api.OK)
	}
}

func TestTableIsWritten(t *testing.T) {
	for i, code := range table() {
		put(t, i-16, code, api.OK)
	}
}

func TestPutRefusesWhatIsNoDifference(t *testing.T) {
	for x := -300; x <= 300; x++ {
		if x < -16 || x > 15 {
			put(t, x, "", api.ErrRange)
		}
	}
	for _, x := range far() {
		put(t, x, "", api.ErrRange)
	}
}

// TestNoCodes gets bits that no code begins with: the least ones, and what would be the code of 16.
func TestNoCodes(t *testing.T) {
	for _, s := range []string{"0000000", "00000010", "000000110000", "00000011000", "0000001100011111", "00000000", "0000000000000001", "0000000111111111", "0000001011111111"} {
		for _, behind := range []string{"", "0", "1", "11111111", "00000000"} {
			b, at := end(s + behind)
			got(t, b, at, 0, 0, api.ErrCode)
		}
	}
	for _, s := range []string{"", "0", "000000", "0000001", "00000011", "000000110", "0000001100", "000001", "0000010", "00000100", "000001000", "0000010000", "0000011", "000011", "00001", "0000", "0001", "001", "01"} {
		b, at := end(s)
		got(t, b, at, 0, 0, api.ErrMore)
	}
}

// TestNoughts counts noughts at the end, and ahead of ones.
func TestNoughts(t *testing.T) {
	wants := []struct{ difference, many int }{{0, 1}, {-1, 3}, {-2, 4}, {-3, 5}, {-4, 7}, {-7, 8}, {-13, 11}}
	for n := range 30 {
		for at := range 9 {
			ahead := strings.Repeat("1", at) + strings.Repeat("0", n)
			b, place := end(ahead)
			if n < 7 {
				got(t, b, place+at, 0, 0, api.ErrMore)
				got(t, pack(ahead+"1111111", "1"), at, wants[n].difference, wants[n].many, api.OK)
				continue
			}
			got(t, b, place+at, 0, 0, api.ErrCode)
			got(t, pack(ahead+"1111111", "1"), at, 0, 0, api.ErrCode)
		}
	}
}

// TestPlacesBehindTheEnd asks where there are no bits: a code may still come.
func TestPlacesBehindTheEnd(t *testing.T) {
	for _, b := range [][]byte{nil, {}, {1}, {0}, {255, 255}, {0, 0, 0}, {3, 32}} {
		for _, behind := range []int{0, 1, 7, 8, 9, 1 << 31, 1 << 40, math.MaxInt/8 - 1, math.MaxInt - 40} {
			got(t, b, 8*len(b)+behind, 0, 0, api.ErrMore)
		}
		for _, at := range []int{math.MaxInt - 10, math.MaxInt - 1, math.MaxInt} {
			got(t, b, at, 0, 0, api.ErrMore)
		}
	}
}

// TestPlacesBelowNought asks at places below 0, of bits that would be each other answer.
func TestPlacesBelowNought(t *testing.T) {
	for _, b := range [][]byte{nil, {}, {3}, {128}, {96}, {0, 255}, {3, 32}} {
		for _, at := range []int{-1, -2, -7, -8, -9, -11, -1 << 31, -1 << 40, math.MinInt + 1, math.MinInt} {
			got(t, b, at, 0, 0, api.ErrRange)
		}
	}
}

// TestGetOfAllBits gets all there are of up to 13 bits, with nothing behind.
func TestGetOfAllBits(t *testing.T) {
	seen := map[int]int{}
	for n := range 14 {
		for x := range 1 << n {
			s := strconv.FormatInt(int64(1<<n|x), 2)[1:]
			difference, many, err := plain(s)
			b, at := end(s)
			got(t, b, at, difference, many, err)
			seen[difference]++
		}
	}
	if len(seen) != 32 {
		t.Error("some difference never came", seen)
	}
}

// TestGetByChance gets at every place of bytes of chance, in which noughts are many.
func TestGetByChance(t *testing.T) {
	c := chance(3)
	for range 100 {
		s := ""
		for range c.below(8) {
			s += strings.Repeat("0", c.below(9)) + c.some(c.below(8))
		}
		b := pack(s, "0")
		s = spell(b)
		for at := range len(s) + 3 {
			difference, many, err := plain(s[min(at, len(s)):])
			got(t, b, at, difference, many, err)
		}
	}
}

// TestGetIsATreesGet makes the tree of what Put tells: it may be made, and gets what Get gets.
func TestGetIsATreesGet(t *testing.T) {
	var codes []string
	var numbers []int
	for difference := -20; difference <= 20; difference++ {
		if code, e := vector.Put(difference); e == api.OK {
			codes, numbers = append(codes, code), append(numbers, difference)
		}
	}
	tree, e := prefix.Make(codes, numbers)
	if e != api.OK || tree.Codes() != 32 {
		t.Fatal("the codes are no tree of 32", e)
	}
	for x := range 1 << 13 {
		b := []byte{byte(x >> 5), byte(x << 3)}
		for _, at := range []int{-1, 0, 7, 15} {
			difference, many, err := tree.Get(b, at)
			got(t, b, at, difference, many, err)
		}
	}
}

// TestPutIsGot puts each difference, and gets it whatever stands ahead and behind.
func TestPutIsGot(t *testing.T) {
	c := chance(7)
	for range 50 {
		for difference := -16; difference <= 15; difference++ {
			code, e := vector.Put(difference)
			if e != api.OK {
				t.Fatal("Put", difference, e)
			}
			at := c.below(20)
			got(t, pack(c.some(at)+code+c.some(c.below(30)), c.some(1)), at, difference, len(code), api.OK)
		}
	}
}

// TestCutOff cuts bits off: what was a code becomes ErrMore, or stays.
func TestCutOff(t *testing.T) {
	c := chance(9)
	for i, code := range table() {
		behind := code + c.some(12)
		for n := range len(behind) + 1 {
			b, at := end(behind[:n])
			if n < len(code) {
				got(t, b, at, 0, 0, api.ErrMore)
			} else {
				got(t, b, at, i-16, len(code), api.OK)
			}
		}
	}
}

// TestManyVectors writes the vectors of groups with a pen, each by its differences to the predicted one, and reads them as they were.
func TestManyVectors(t *testing.T) {
	type moved struct{ address, x, y int }
	c := chance(11)
	for range 60 {
		var all []moved
		for address := 1 + c.below(3); address <= 33; address += 1 + c.below(4)/3 {
			all = append(all, moved{address, c.below(31) - 15, c.below(31) - 15})
		}
		p := bits.NewPen()
		last := moved{}
		for _, m := range all {
			x, y := vector.Predict(m.address, m.address-last.address, last.address > 0, last.x, last.y)
			for _, way := range [][2]int{{x, m.x}, {y, m.y}} {
				difference, e := vector.Diff(way[0], way[1])
				code, f := vector.Put(difference)
				if e != api.OK || f != api.OK || p.Code(code) != api.OK {
					t.Fatal("wrote", way, difference, code, e, f)
				}
			}
			last = m
		}
		at := 0
		last = moved{}
		for _, m := range all {
			x, y := vector.Predict(m.address, m.address-last.address, last.address > 0, last.x, last.y)
			for _, way := range [][2]int{{x, m.x}, {y, m.y}} {
				difference, many, e := vector.Get(p.Bytes(), at)
				part, f := vector.Turn(way[0], difference)
				if part != way[1] || e != api.OK || f != api.OK {
					t.Fatal("read", at, difference, part, e, f, "not", way)
				}
				at += many
			}
			last = m
		}
		if at != p.Len() {
			t.Fatal("read", at, "of", p.Len())
		}
	}
}

// TestGetLeavesBytes looks whether Get looks behind the end, or changes bytes.
func TestGetLeavesBytes(t *testing.T) {
	all := []byte{3, 32, 224}
	got(t, all[:0], 0, 0, 0, api.ErrMore)
	got(t, all[:1], 0, 0, 0, api.ErrMore)
	got(t, all[:1], 8, 0, 0, api.ErrMore)
	got(t, all[:2], 0, -16, 11, api.OK)
	got(t, all[:2], 11, 0, 0, api.ErrMore)
	got(t, all, 11, -7, 8, api.OK)
	got(t, all, 16, 0, 1, api.OK)
	if !bytes.Equal(all, []byte{3, 32, 224}) {
		t.Error("bytes were changed", all)
	}
}

// TestAnswersStay asks again and again, also for wrong things: no call tells on another one.
func TestAnswersStay(t *testing.T) {
	c := chance(13)
	for range 300 {
		difference := c.below(40) - 20
		if difference < -16 || difference > 15 {
			put(t, difference, "", api.ErrRange)
			turned(t, 0, difference, 0, api.ErrRange)
			continue
		}
		code := table()[difference+16]
		put(t, difference, code, api.OK)
		got(t, pack(code, "1"), 0, difference, len(code), api.OK)
		got(t, pack(code, "1"), -1, 0, 0, api.ErrRange)
	}
}
