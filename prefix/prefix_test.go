package prefix_test

import (
	"math"
	"slices"
	"strconv"
	"strings"
	"testing"

	"praxinoscope/api"
	"praxinoscope/bits"
	"praxinoscope/prefix"
)

// chance is a row of numbers that look like chance and are always the same.
type chance uint64

func (c *chance) below(n int) int {
	*c = *c*6364136223846793005 + 1442695040888963407
	return int(uint64(*c) >> 33 % uint64(n))
}

// some tells so many bits of chance.
func (c *chance) some(n int) string {
	s := ""
	for range n {
		s += strconv.Itoa(c.below(2))
	}
	return s
}

// cut tells the codes of a tree of chance, at most some, none of which begins another one: a code is cut in two, again and again, and some are left out.
func (c *chance) cut(most int) []string {
	codes := []string{"0", "1"}
	for len(codes) < most {
		i := c.below(len(codes))
		if len(codes[i]) == 24 {
			break
		}
		codes = append(codes, codes[i]+"1")
		codes[i] += "0"
	}
	for len(codes) > 1 && c.below(3) == 0 {
		codes = slices.Delete(codes, len(codes)-1, len(codes))
	}
	return codes
}

// spell tells the bits of b as a text, by the library alone.
func spell(b []byte) string {
	s := ""
	for _, x := range b {
		s += strconv.FormatInt(256+int64(x), 2)[1:]
	}
	return s
}

// pack tells the bytes of a text of bits, with the bits of fill behind it.
func pack(s, fill string) []byte {
	for len(s)%8 != 0 {
		s += fill
	}
	var b []byte
	for i := 0; i < len(s); i += 8 {
		n, err := strconv.ParseUint(s[i:i+8], 2, 8)
		if err != nil {
			panic(err)
		}
		b = append(b, byte(n))
	}
	return b
}

// end tells bytes at whose end a text of bits stands, and the place of its first bit.
func end(s string) ([]byte, int) {
	lacks := (8 - len(s)%8) % 8
	return pack(strings.Repeat("1", lacks)+s, ""), lacks
}

// numbered tells so many numbers, rising from one on.
func numbered(n, from int) []int {
	var numbers []int
	for i := range n {
		numbers = append(numbers, from+i)
	}
	return numbers
}

// counted tells so many codes of so many bits, each of them the number of its place.
func counted(n, many int) []string {
	var codes []string
	for i := range n {
		codes = append(codes, strconv.FormatInt(int64(1<<many|i), 2)[1:])
	}
	return codes
}

// made tells the tree of codes and numbers.
func made(t *testing.T, codes []string, numbers []int) *prefix.Tree {
	t.Helper()
	x, e := prefix.Make(codes, numbers)
	if e != api.OK || x == nil {
		t.Fatalf("Make(%v, %v): %v, %d", codes, numbers, x, e)
	}
	if x.Codes() != len(codes) {
		t.Fatalf("Make(%v, %v) has %d codes", codes, numbers, x.Codes())
	}
	return x
}

// got looks whether Get answers just this.
func got(t *testing.T, x *prefix.Tree, b []byte, at, number, many int, err api.Errno) {
	t.Helper()
	if n, m, e := x.Get(b, at); n != number || m != many || e != err {
		t.Fatalf("Get(%v, %d): %d, %d, %d, not %d, %d, %d", b, at, n, m, e, number, many, err)
	}
}

// put looks whether Put answers just this.
func put(t *testing.T, x *prefix.Tree, number int, code string, err api.Errno) {
	t.Helper()
	if s, e := x.Put(number); s != code || e != err {
		t.Fatalf("Put(%d): %q, %d, not %q, %d", number, s, e, code, err)
	}
}

// refused looks whether Make answers just this error.
func refused(t *testing.T, codes []string, numbers []int, err api.Errno) {
	t.Helper()
	if x, e := prefix.Make(codes, numbers); x != nil || e != err {
		t.Fatalf("Make of %d codes and %d numbers, %.200q: %v, %d, not %d", len(codes), len(numbers), codes, x, e, err)
	}
}

func TestExamples(t *testing.T) {
	x := made(t, []string{"1", "01", "001"}, []int{7, 8, 7})
	got(t, x, []byte{128}, 0, 7, 1, api.OK)
	got(t, x, []byte{64}, 0, 8, 2, api.OK)
	got(t, x, []byte{64}, 1, 7, 1, api.OK)
	got(t, x, []byte{32}, 0, 7, 3, api.OK)
	got(t, x, []byte{0}, 0, 0, 0, api.ErrCode)
	got(t, x, []byte{0}, 7, 0, 0, api.ErrMore)
	got(t, x, nil, 0, 0, 0, api.ErrMore)
	got(t, x, []byte{1}, -1, 0, 0, api.ErrRange)
	put(t, x, 7, "1", api.OK)
	put(t, x, 8, "01", api.OK)
	put(t, x, 9, "", api.ErrUnknown)
	if x.Codes() != 3 {
		t.Error("Codes", x.Codes())
	}
	refused(t, []string{"1", "10"}, []int{1, 2}, api.ErrForm)
	refused(t, []string{"1", "1"}, []int{1, 2}, api.ErrForm)
	refused(t, []string{"2"}, []int{1}, api.ErrArg)
	refused(t, []string{"1"}, []int{1, 2}, api.ErrArg)
	refused(t, nil, nil, api.ErrArg)
}

func TestMakeCounts(t *testing.T) {
	for _, n := range []int{1, 2, 299, 300} {
		x := made(t, counted(n, 9), numbered(n, 0))
		put(t, x, n-1, counted(n, 9)[n-1], api.OK)
		put(t, x, n, "", api.ErrUnknown)
	}
	for _, x := range [][2]int{{0, 0}, {0, 1}, {1, 0}, {1, 2}, {2, 1}, {3, 300}, {300, 299}, {299, 300}, {300, 301}, {301, 300}, {301, 301}, {301, 0}, {0, 301}, {512, 512}, {100000, 100000}} {
		refused(t, counted(x[0], 24), numbered(x[1], 0), api.ErrArg)
	}
	refused(t, []string{}, []int{}, api.ErrArg)
	refused(t, []string{}, nil, api.ErrArg)
}

// TestMakeLengths makes trees of one code, of each length that a code has, and of some that it has not.
func TestMakeLengths(t *testing.T) {
	for n := 1; n <= 24; n++ {
		for _, text := range []string{strings.Repeat("0", n), strings.Repeat("1", n), strings.Repeat("01", n)[:n], strings.Repeat("10", n)[:n]} {
			x := made(t, []string{text}, []int{n})
			put(t, x, n, text, api.OK)
			got(t, x, pack(text, "1"), 0, n, n, api.OK)
		}
	}
	for _, n := range []int{0, 25, 26, 31, 32, 33, 63, 64, 65, 1000, 1 << 20} {
		refused(t, []string{strings.Repeat("0", n)}, []int{1}, api.ErrArg)
		refused(t, []string{strings.Repeat("1", n)}, []int{1}, api.ErrArg)
		refused(t, []string{"1", "01" + strings.Repeat("1", max(n-2, 0)), strings.Repeat("0", n)}, []int{1, 2, 3}, api.ErrArg)
	}
}

func TestMakeRefusesWhatIsNoBit(t *testing.T) {
	for _, text := range []string{"2", "/", " ", "0 1", "10x", "x10", "1\n", "\n", "\x00", "\x01", "\xff0", "0\xff", "0\xff0", "٠", "１", "-1", "+0", "0b1", "1_0", "01,1", "O", "l"} {
		refused(t, []string{text}, []int{1}, api.ErrArg)
		refused(t, []string{"1", "01", text}, []int{1, 2, 3}, api.ErrArg)
		refused(t, []string{text, "1"}, []int{1, 2}, api.ErrArg)
	}
}

func TestMakeRefusesBeginnings(t *testing.T) {
	for _, codes := range [][]string{
		{"0", "00"}, {"00", "0"}, {"0", "0"}, {"1", "11"}, {"11", "1"},
		{"10", "1"}, {"101", "1", "0"}, {"0", "101", "1"}, {"0", "1", "01"}, {"01", "0", "1"}, {"00", "01", "0"},
		{"01", "001", "0001", "001"}, {"001", "01", "1", "00"}, {"110", "10", "0", "1101"}, {"110", "10", "0", "11"},
		{strings.Repeat("0", 24), strings.Repeat("0", 24)}, {strings.Repeat("0", 24), strings.Repeat("0", 23)}, {strings.Repeat("0", 23), strings.Repeat("0", 24)},
		{strings.Repeat("1", 24), "1"}, {"1", strings.Repeat("1", 24)},
	} {
		refused(t, codes, numbered(len(codes), 1), api.ErrForm)
		refused(t, codes, make([]int, len(codes)), api.ErrForm)
	}
	many := counted(300, 9)
	many[299] = many[0]
	refused(t, many, numbered(300, 0), api.ErrForm)
	many[299] = many[150][:8]
	refused(t, many, numbered(300, 0), api.ErrForm)
	many[299] = many[150] + "0"
	refused(t, many, numbered(300, 0), api.ErrForm)
}

// TestMakeOrder asks for what is wrong twice: that something is no code comes ahead of codes that begin others.
func TestMakeOrder(t *testing.T) {
	refused(t, []string{"1", "1", "2"}, []int{1, 2, 3}, api.ErrArg)
	refused(t, []string{"1", "10", ""}, []int{1, 2, 3}, api.ErrArg)
	refused(t, []string{"1", "10", strings.Repeat("0", 25)}, []int{1, 2, 3}, api.ErrArg)
	refused(t, []string{"1", "1"}, []int{1, 2, 3}, api.ErrArg)
	refused(t, []string{"1", "1"}, []int{1}, api.ErrArg)
	refused(t, []string{"1", "1"}, nil, api.ErrArg)
	refused(t, append(counted(300, 9), counted(1, 9)...), numbered(301, 0), api.ErrArg)
}

func TestNumbersOfOnesOwnChoice(t *testing.T) {
	numbers := []int{0, -1, math.MaxInt, math.MinInt, 1 << 40, 5}
	codes := []string{"1", "01", "001", "0001", "00001", "000001"}
	x := made(t, codes, numbers)
	for i, code := range codes {
		got(t, x, pack(code, "0"), 0, numbers[i], len(code), api.OK)
		put(t, x, numbers[i], code, api.OK)
	}
	for _, n := range []int{1, -2, 2, 3, 4, 6, math.MaxInt - 1, math.MinInt + 1, 1<<40 - 1} {
		put(t, x, n, "", api.ErrUnknown)
	}
	put(t, made(t, []string{"1"}, []int{3}), 0, "", api.ErrUnknown)
}

// TestPutTellsTheFirst has codes with one number, the first of them neither the shortest nor the least.
func TestPutTellsTheFirst(t *testing.T) {
	x := made(t, []string{"0010", "1", "0011", "01", "000"}, []int{4, 5, 4, 5, 4})
	put(t, x, 4, "0010", api.OK)
	put(t, x, 5, "1", api.OK)
	for _, y := range []struct {
		code         string
		number, many int
	}{{"0010", 4, 4}, {"1", 5, 1}, {"0011", 4, 4}, {"01", 5, 2}, {"000", 4, 3}} {
		got(t, x, pack(y.code, "1"), 0, y.number, y.many, api.OK)
		got(t, x, pack(y.code, "0"), 0, y.number, y.many, api.OK)
	}
	same := made(t, counted(300, 9), make([]int, 300))
	put(t, same, 0, "000000000", api.OK)
	put(t, same, 1, "", api.ErrUnknown)
}

func TestGetPlaces(t *testing.T) {
	x := made(t, []string{"1", "01", "001"}, []int{7, 8, 9})
	b := []byte{0b01001110, 0b00100100}
	for at, want := range []struct {
		number, many int
		err          api.Errno
	}{
		{8, 2, api.OK}, {7, 1, api.OK}, {9, 3, api.OK}, {8, 2, api.OK}, {7, 1, api.OK}, {7, 1, api.OK}, {7, 1, api.OK}, {0, 0, api.ErrCode},
		{9, 3, api.OK}, {8, 2, api.OK}, {7, 1, api.OK}, {9, 3, api.OK}, {8, 2, api.OK}, {7, 1, api.OK}, {0, 0, api.ErrMore}, {0, 0, api.ErrMore},
		{0, 0, api.ErrMore}, {0, 0, api.ErrMore}, {0, 0, api.ErrMore},
	} {
		got(t, x, b, at, want.number, want.many, want.err)
	}
	for _, at := range []int{16, 17, 24, 1 << 40, math.MaxInt - 1, math.MaxInt} {
		got(t, x, b, at, 0, 0, api.ErrMore)
		got(t, x, nil, at, 0, 0, api.ErrMore)
		got(t, x, []byte{}, at, 0, 0, api.ErrMore)
	}
	for _, at := range []int{-1, -8, -1 << 40, math.MinInt} {
		got(t, x, b, at, 0, 0, api.ErrRange)
		got(t, x, nil, at, 0, 0, api.ErrRange)
	}
}

// TestGetOfOneCode tells apart what is no code, and what could become one.
func TestGetOfOneCode(t *testing.T) {
	x := made(t, []string{"0110"}, []int{3})
	for _, y := range []struct {
		bits         string
		number, many int
		err          api.Errno
	}{
		{"", 0, 0, api.ErrMore}, {"0", 0, 0, api.ErrMore}, {"01", 0, 0, api.ErrMore}, {"011", 0, 0, api.ErrMore}, {"0110", 3, 4, api.OK}, {"01101", 3, 4, api.OK}, {"011001101", 3, 4, api.OK},
		{"1", 0, 0, api.ErrCode}, {"00", 0, 0, api.ErrCode}, {"010", 0, 0, api.ErrCode}, {"0111", 0, 0, api.ErrCode}, {"10110", 0, 0, api.ErrCode}, {"0111111111", 0, 0, api.ErrCode},
	} {
		b, at := end(y.bits)
		got(t, x, b, at, y.number, y.many, y.err)
	}
}

// TestLongCodes has codes of 24 bits that differ in their last bit alone.
func TestLongCodes(t *testing.T) {
	head := strings.Repeat("01", 11) + "1"
	x := made(t, []string{head + "0", head + "1", "1"}, []int{1, 2, 3})
	for at := range 9 {
		ahead := strings.Repeat("1", at)
		got(t, x, pack(ahead+head+"0", "1"), at, 1, 24, api.OK)
		got(t, x, pack(ahead+head+"1", "0"), at, 2, 24, api.OK)
	}
	for n := range 24 {
		b, at := end(head[:n])
		got(t, x, b, at, 0, 0, api.ErrMore)
		if n > 0 && n < len(head) {
			b, at = end(head[:n] + string('0'+'1'-head[n]))
			got(t, x, b, at, 0, 0, api.ErrCode)
		}
	}
	full := made(t, counted(300, 24), numbered(300, 1))
	for i, code := range counted(300, 24) {
		got(t, full, pack(code, ""), 0, i+1, 24, api.OK)
		put(t, full, i+1, code, api.OK)
	}
	b, at := end(strings.Repeat("0", 23))
	got(t, full, b, at, 0, 0, api.ErrMore)
	got(t, full, []byte{0, 1, 44}, 0, 0, 0, api.ErrCode)
}

// TestTreeThatIsNone asks trees that Make did not answer.
func TestTreeThatIsNone(t *testing.T) {
	x := made(t, []string{"1", "01"}, []int{7, 0})
	twin := *x
	for name, none := range map[string]*prefix.Tree{"nil": nil, "zero": {}, "new": new(prefix.Tree), "copy": &twin} {
		for _, at := range []int{0, 1, 9, -1, math.MinInt, math.MaxInt} {
			for _, b := range [][]byte{nil, {128}, {0}} {
				if n, m, e := none.Get(b, at); n != 0 || m != 0 || e != api.ErrNil {
					t.Errorf("%s: Get(%v, %d): %d, %d, %d", name, b, at, n, m, e)
				}
			}
		}
		for _, n := range []int{7, 0, 9, -1} {
			if s, e := none.Put(n); s != "" || e != api.ErrNil {
				t.Errorf("%s: Put(%d): %q, %d", name, n, s, e)
			}
		}
		if none.Codes() != 0 {
			t.Errorf("%s: %d codes", name, none.Codes())
		}
	}
	got(t, x, []byte{128}, 0, 7, 1, api.OK)
	put(t, x, 0, "01", api.OK)
}

// TestMakeKeepsNothing changes what was handed in when the tree is made, and looks at what lies behind it.
func TestMakeKeepsNothing(t *testing.T) {
	codes := []string{"1", "01", "001", "x"}
	numbers := []int{7, 8, 9, 10}
	x := made(t, codes[:2], numbers[:2])
	if !slices.Equal(codes, []string{"1", "01", "001", "x"}) || !slices.Equal(numbers, []int{7, 8, 9, 10}) {
		t.Error("what was handed in was changed", codes, numbers)
	}
	codes[0], codes[1], numbers[0], numbers[1] = "00", "11", 1, 2
	got(t, x, []byte{128}, 0, 7, 1, api.OK)
	got(t, x, []byte{64}, 0, 8, 2, api.OK)
	put(t, x, 7, "1", api.OK)
	put(t, x, 8, "01", api.OK)
	put(t, x, 9, "", api.ErrUnknown)
	put(t, x, 1, "", api.ErrUnknown)
}

// TestGetLeavesBytes looks whether Get looks behind the end, or changes bytes.
func TestGetLeavesBytes(t *testing.T) {
	x := made(t, []string{"0000000001", "1"}, []int{4, 5})
	all := []byte{0, 64}
	got(t, x, all[:1], 0, 0, 0, api.ErrMore)
	got(t, x, all, 0, 4, 10, api.OK)
	if !slices.Equal(all, []byte{0, 64}) {
		t.Error("bytes were changed", all)
	}
}

// TestTreesShareNothing makes one tree behind another, and asks both by turns.
func TestTreesShareNothing(t *testing.T) {
	x := made(t, []string{"0", "10"}, []int{1, 2})
	y := made(t, []string{"00", "01", "1"}, []int{1, 2, 3})
	refused(t, []string{"0", "00"}, []int{1, 2}, api.ErrForm)
	for range 2 {
		got(t, x, []byte{0}, 0, 1, 1, api.OK)
		got(t, y, []byte{0}, 0, 1, 2, api.OK)
		got(t, x, []byte{192}, 0, 0, 0, api.ErrCode)
		got(t, y, []byte{192}, 0, 3, 1, api.OK)
		put(t, x, 3, "", api.ErrUnknown)
		put(t, y, 2, "01", api.OK)
	}
}

// plain tells what Get must answer of a text of bits, by looking through all codes.
func plain(codes []string, numbers []int, s string) (int, int, api.Errno) {
	begins := false
	for i, code := range codes {
		if strings.HasPrefix(s, code) {
			return numbers[i], len(code), api.OK
		}
		begins = begins || strings.HasPrefix(code, s)
	}
	if begins {
		return 0, 0, api.ErrMore
	}
	return 0, 0, api.ErrCode
}

// TestGetByChance holds trees against a look through all codes, at every place of bytes of chance.
func TestGetByChance(t *testing.T) {
	c := chance(3)
	seen := map[api.Errno]int{}
	for range 200 {
		codes := c.cut(1 + c.below(60))
		numbers := numbered(len(codes), c.below(100)-50)
		x := made(t, codes, numbers)
		b := pack(c.some(8*c.below(6)), "")
		s := spell(b)
		for at := range len(s) + 2 {
			number, many, err := plain(codes, numbers, s[min(at, len(s)):])
			got(t, x, b, at, number, many, err)
			seen[err]++
		}
	}
	if seen[api.OK] == 0 || seen[api.ErrMore] == 0 || seen[api.ErrCode] == 0 {
		t.Error("something never came", seen)
	}
}

// TestMakeByChance holds Make against a look at all pairs of codes.
func TestMakeByChance(t *testing.T) {
	c := chance(9)
	seen := map[api.Errno]int{}
	for range 3000 {
		codes := make([]string, 1+c.below(5))
		for i := range codes {
			codes[i] = c.some(1 + c.below(5))
		}
		want := api.OK
		for i, a := range codes {
			for j, b := range codes {
				if i != j && strings.HasPrefix(a, b) {
					want = api.ErrForm
				}
			}
		}
		seen[want]++
		if want != api.OK {
			refused(t, codes, numbered(len(codes), 0), want)
			continue
		}
		made(t, codes, numbered(len(codes), 0))
	}
	if seen[api.OK] == 0 || seen[api.ErrForm] == 0 {
		t.Error("something never came", seen)
	}
}

// TestPutIsGot puts each number, and gets it whatever stands behind and ahead.
func TestPutIsGot(t *testing.T) {
	c := chance(5)
	for range 100 {
		codes := c.cut(1 + c.below(300))
		numbers := numbered(len(codes), -c.below(300))
		x := made(t, codes, numbers)
		for i, number := range numbers {
			put(t, x, number, codes[i], api.OK)
			at := c.below(9)
			got(t, x, pack(c.some(at)+codes[i]+c.some(c.below(30)), c.some(1)), at, number, len(codes[i]), api.OK)
		}
	}
}

// TestCutOff cuts bits off: what was a code becomes ErrMore, or stays.
func TestCutOff(t *testing.T) {
	c := chance(7)
	for range 50 {
		codes := c.cut(1 + c.below(100))
		x := made(t, codes, numbered(len(codes), 1))
		for i, code := range codes {
			behind := code + c.some(8)
			for n := range len(behind) + 1 {
				b, at := end(behind[:n])
				if n < len(code) {
					got(t, x, b, at, 0, 0, api.ErrMore)
				} else {
					got(t, x, b, at, i+1, len(code), api.OK)
				}
			}
		}
	}
}

// TestOneBehindTheOther writes codes with a pen, and gets them as they were put.
func TestOneBehindTheOther(t *testing.T) {
	c := chance(11)
	for range 100 {
		codes := c.cut(1 + c.below(200))
		x := made(t, codes, numbered(len(codes), 0))
		p := bits.NewPen()
		var numbers []int
		for range c.below(80) {
			numbers = append(numbers, c.below(len(codes)))
			code, e := x.Put(numbers[len(numbers)-1])
			if e != api.OK || p.Code(code) != api.OK {
				t.Fatal("Put", code, e)
			}
		}
		at := 0
		for _, number := range numbers {
			n, many, e := x.Get(p.Bytes(), at)
			if n != number || e != api.OK {
				t.Fatalf("%d is got as %d, %d, %d", number, n, many, e)
			}
			at += many
		}
		if at != p.Len() {
			t.Fatalf("%d bits were put, %d got", p.Len(), at)
		}
	}
}
