package group_test

import (
	"bytes"
	"math"
	"slices"
	"strings"
	"testing"

	"praxinoscope/api"
	"praxinoscope/group"
)

// chance is a row of numbers that look like chance and are always the same.
type chance uint64

func (c *chance) below(n int) int {
	*c = *c*6364136223846793005 + 1442695040888963407
	return int(uint64(*c) >> 33 % uint64(n))
}

// of tells one of a list.
func (c *chance) of(l []int) int {
	return l[c.below(len(l))]
}

// some tells so many bits of chance.
func (c *chance) some(n int) string {
	l := make([]byte, n)
	for i := range l {
		l[i] = '0' + byte(c.below(2))
	}
	return string(l)
}

// bytes tells so many bytes of chance.
func (c *chance) bytes(n int) []byte {
	var l []byte
	for range n {
		l = append(l, byte(c.below(256)))
	}
	return l
}

// head is a group's header.
type head struct {
	quant int
	spare []byte
}

// head tells a header that may be.
func (c *chance) head() head {
	return head{1 + c.below(31), c.bytes(c.of([]int{0, 0, 1, 2, 3, 7, 31, 32}))}
}

// heads tells headers at the edges of what may be, and between them.
func heads(c *chance) []head {
	return []head{
		{1, nil}, {31, nil}, {16, nil}, {1, []byte{0}}, {31, []byte{165}}, {2, []byte{255, 255}}, {17, []byte{0, 128, 1}},
		{1, make([]byte, 32)}, {31, bytes.Repeat([]byte{255}, 32)}, {9, c.bytes(31)}, {22, c.bytes(32)}, c.head(),
	}
}

// far tells numbers that lie far from any quantiser and number; cut to fewer bits, some would be one.
func far() []int {
	l := []int{100, 127, 128, 129, 255, 256, 257, 259, 1000, 1 << 16, 1<<16 + 1, 1<<16 + 5, 1 << 31, 1<<31 - 1, 1<<31 + 1, 1 << 32, 1<<32 + 1, 1<<32 + 4, 1<<32 - 1, 1<<32 - 4, 1 << 40, 1<<62 + 1, 1<<62 + 4, math.MaxInt, math.MaxInt - 1, math.MaxInt - 14, math.MaxInt - 15, math.MaxInt - 16, math.MaxInt - 30, math.MaxInt - 31, math.MinInt, math.MinInt + 1, math.MinInt + 3, math.MinInt + 15, math.MinInt + 31}
	for _, n := range slices.Clone(l) {
		l = append(l, -n)
	}
	return l
}

// noQuants tells what is no quantiser.
func noQuants() []int {
	return append([]int{0, -1, 32, -2, 33, 34, 47, 48, 62, 63, 64, 65, -16, -31, -32, -33}, far()...)
}

// noNumbers tells what is no start's number.
func noNumbers() []int {
	return append([]int{-1, 16, -2, 17, 18, 31, 32, 33, -14, -15, -16, -17}, far()...)
}

// noSpares tells how many bytes are too many.
func noSpares() []int {
	return []int{33, 34, 40, 63, 64, 65, 255, 256, 257, 1000, 1 << 16, 1<<16 + 1, 1<<16 + 32}
}

// plainSpell spells a number in so many bits.
func plainSpell(n, many int) string {
	s := ""
	for range many {
		s = string(rune('0'+n%2)) + s
		n /= 2
	}
	return s
}

// plainPut tells a header's bits, or the error of Put, by the words of the chapter.
func plainPut(h head) (string, api.Errno) {
	if h.quant < 1 || h.quant > 31 || len(h.spare) > 32 {
		return "", api.ErrArg
	}
	s := plainSpell(h.quant, 5)
	for _, x := range h.spare {
		s += "1" + plainSpell(int(x), 8)
	}
	return s + "0", api.OK
}

// plainStart tells a start's bits, or the error of Start, by the words of the chapter.
func plainStart(number int) (string, api.Errno) {
	if number < 0 || number > 15 {
		return "", api.ErrRange
	}
	return strings.Repeat("0", 15) + "1" + plainSpell(number, 4), api.OK
}

// plainWhole tells a start and a header, or the error of Whole, by the words of the chapter.
func plainWhole(number int, h head) (string, api.Errno) {
	if number < 1 || number > 15 {
		return "", api.ErrRange
	}
	s, err := plainPut(h)
	if err != api.OK {
		return "", err
	}
	start, _ := plainStart(number)
	return start + s, api.OK
}

// whole tells the bits of a number and a header that may be.
func whole(number int, h head) string {
	s, _ := plainWhole(number, h)
	return s
}

// bare tells the bits of a header that may be.
func bare(h head) string {
	s, _ := plainPut(h)
	return s
}

// reader takes numbers off a text of bits; short tells that there were too few.
type reader struct {
	s     string
	short bool
}

func (r *reader) cut(many int) int {
	if r.short || len(r.s) < many {
		r.short = true
		return 0
	}
	n := 0
	for _, x := range r.s[:many] {
		n = n*2 + int(x-'0')
	}
	r.s = r.s[many:]
	return n
}

// plainGet tells what Get must answer of a text of bits, from its first one on.
func plainGet(s string) (head, int, api.Errno) {
	r := reader{s: s}
	h := head{quant: r.cut(5)}
	if h.quant == 0 && !r.short {
		return head{}, 0, api.ErrQuant
	}
	for !r.short && r.cut(1) == 1 {
		if len(h.spare) == 32 {
			return head{}, 0, api.ErrLong
		}
		h.spare = append(h.spare, byte(r.cut(8)))
	}
	if r.short {
		return head{}, 0, api.ErrMore
	}
	return h, len(s) - len(r.s), api.OK
}

// plainOpen tells what Open must answer of a text of bits, from its first one on.
func plainOpen(s string) (int, head, int, api.Errno) {
	one := strings.Index(s, "1")
	switch {
	case one < 0:
		return 0, head{}, 0, api.ErrMore
	case one < 15:
		return 0, head{}, 0, api.ErrCode
	case len(s) < one+5:
		return 0, head{}, 0, api.ErrMore
	case s[one+1:one+5] == "0000":
		return 0, head{}, 0, api.ErrArg
	}
	h, many, err := plainGet(s[one+5:])
	if err != api.OK {
		return 0, head{}, 0, err
	}
	r := reader{s: s[one+1:]}
	return r.cut(4), h, one + 5 + many, api.OK
}

// pack tells the bytes of a text of bits, with the bits of fill behind it.
func pack(s, fill string) []byte {
	for len(s)%8 != 0 {
		s += fill
	}
	var b []byte
	for i := 0; i < len(s); i += 8 {
		n := 0
		for _, x := range s[i : i+8] {
			n = n*2 + int(x-'0')
		}
		b = append(b, byte(n))
	}
	return b
}

// spell tells the bits of bytes from a place on.
func spell(b []byte, at int) string {
	var s strings.Builder
	for _, x := range b {
		s.WriteString(plainSpell(int(x), 8))
	}
	return s.String()[min(at, s.Len()):]
}

// end tells bytes at whose end a text of bits stands, and the place of its first bit.
func end(s string) ([]byte, int) {
	lacks := (8 - len(s)%8) % 8
	return pack(strings.Repeat("1", lacks)+s, ""), lacks
}

// equal tells whether two headers are the same.
func equal(g, h head) bool {
	return g.quant == h.quant && bytes.Equal(g.spare, h.spare)
}

// room looks whether what is handed over stays as it was, its spare room, too.
func room(t *testing.T, b []byte) func() {
	t.Helper()
	all := b[:cap(b)]
	was := slices.Clone(all)
	return func() {
		t.Helper()
		if !bytes.Equal(all, was) {
			t.Fatal("what was handed over was changed")
		}
	}
}

// put looks whether Put answers just this.
func put(t *testing.T, h head, want string, err api.Errno) {
	t.Helper()
	stays := room(t, h.spare)
	if s, e := group.Put(h.quant, h.spare); s != want || e != err {
		t.Fatalf("Put(%v): %q, %d, not %q, %d", h, s, e, want, err)
	}
	stays()
}

// get looks whether Get answers just this.
func get(t *testing.T, b []byte, at int, want head, many int, err api.Errno) {
	t.Helper()
	stays := room(t, b)
	quant, spare, n, e := group.Get(b, at)
	if !equal(head{quant, spare}, want) || n != many || e != err {
		t.Fatalf("Get(%v, %d): %d, %v, %d, %d, not %v, %d, %d", b, at, quant, spare, n, e, want, many, err)
	}
	stays()
}

// start looks whether Start answers just this.
func start(t *testing.T, number int, want string, err api.Errno) {
	t.Helper()
	if s, e := group.Start(number); s != want || e != err {
		t.Fatalf("Start(%d): %q, %d, not %q, %d", number, s, e, want, err)
	}
}

// join looks whether Whole answers just this.
func join(t *testing.T, number int, h head, want string, err api.Errno) {
	t.Helper()
	stays := room(t, h.spare)
	if s, e := group.Whole(number, h.quant, h.spare); s != want || e != err {
		t.Fatalf("Whole(%d, %v): %q, %d, not %q, %d", number, h, s, e, want, err)
	}
	stays()
}

// open looks whether Open answers just this.
func open(t *testing.T, b []byte, at, number int, want head, many int, err api.Errno) {
	t.Helper()
	stays := room(t, b)
	number1, quant, spare, n, e := group.Open(b, at)
	if number1 != number || !equal(head{quant, spare}, want) || n != many || e != err {
		t.Fatalf("Open(%v, %d): %d, %d, %v, %d, %d, not %d, %v, %d, %d", b, at, number1, quant, spare, n, e, number, want, many, err)
	}
	stays()
}

// refused looks whether Get answers an error, and nothing beside it.
func refused(t *testing.T, b []byte, at int, err api.Errno) {
	t.Helper()
	get(t, b, at, head{}, 0, err)
}

// shut looks whether Open answers an error, and nothing beside it.
func shut(t *testing.T, b []byte, at int, err api.Errno) {
	t.Helper()
	open(t, b, at, 0, head{}, 0, err)
}

func TestExamples(t *testing.T) {
	put(t, head{1, nil}, "000010", api.OK)
	put(t, head{31, []byte{165}}, "111111101001010", api.OK)
	put(t, head{0, nil}, "", api.ErrArg)
	put(t, head{32, nil}, "", api.ErrArg)
	start(t, 0, "00000000000000010000", api.OK)
	start(t, 16, "", api.ErrRange)
	get(t, []byte{8}, 0, head{1, nil}, 6, api.OK)
	get(t, []byte{254, 148}, 0, head{31, []byte{165}}, 15, api.OK)
	refused(t, []byte{0}, 0, api.ErrQuant)
	refused(t, []byte{12}, 0, api.ErrMore)
	refused(t, []byte{8}, -1, api.ErrRange)
	join(t, 3, head{1, nil}, "00000000000000010011000010", api.OK)
	join(t, 0, head{1, nil}, "", api.ErrRange)
	open(t, []byte{0, 1, 48, 128}, 0, 3, head{1, nil}, 26, api.OK)
	open(t, []byte{0, 0, 1, 48, 128}, 0, 3, head{1, nil}, 34, api.OK)
	shut(t, []byte{0, 1, 8, 0}, 0, api.ErrArg)
}

// TestPutSignBySign looks at where each part stands.
func TestPutSignBySign(t *testing.T) {
	for _, x := range []struct {
		h    head
		want string
	}{
		{head{1, nil}, "00001 0"},
		{head{1, []byte{}}, "00001 0"},
		{head{2, nil}, "00010 0"},
		{head{10, nil}, "01010 0"},
		{head{16, nil}, "10000 0"},
		{head{30, nil}, "11110 0"},
		{head{31, nil}, "11111 0"},
		{head{5, []byte{1}}, "00101 1 00000001 0"},
		{head{5, []byte{128, 0}}, "00101 1 10000000 1 00000000 0"},
		{head{24, []byte{255, 0, 90}}, "11000 1 11111111 1 00000000 1 01011010 0"},
		{head{31, bytes.Repeat([]byte{255}, 32)}, "11111 " + strings.Repeat("1 11111111 ", 32) + "0"},
		{head{1, make([]byte, 32)}, "00001 " + strings.Repeat("1 00000000 ", 32) + "0"},
	} {
		put(t, x.h, strings.ReplaceAll(x.want, " ", ""), api.OK)
		join(t, 6, x.h, "00000000000000010110"+strings.ReplaceAll(x.want, " ", ""), api.OK)
	}
}

// TestStarts asks for all numbers, and for what is none.
func TestStarts(t *testing.T) {
	for number, want := range []string{"0000", "0001", "0010", "0011", "0100", "0101", "0110", "0111", "1000", "1001", "1010", "1011", "1100", "1101", "1110", "1111"} {
		start(t, number, "000000000000000"+"1"+want, api.OK)
	}
	for number := -40; number < 80; number++ {
		want, err := plainStart(number)
		start(t, number, want, err)
	}
	for _, number := range noNumbers() {
		start(t, number, "", api.ErrRange)
	}
}

// TestPutRefuses tries quantisers and spare bytes that may not be, alone and together.
func TestPutRefuses(t *testing.T) {
	for _, quant := range noQuants() {
		for _, many := range []int{0, 1, 32, 33, 100} {
			put(t, head{quant, make([]byte, many)}, "", api.ErrArg)
		}
	}
	for _, many := range noSpares() {
		for _, quant := range []int{1, 16, 31, 0, 32, -1} {
			put(t, head{quant, bytes.Repeat([]byte{255}, many)}, "", api.ErrArg)
		}
	}
	for quant := -40; quant < 80; quant++ {
		for many := range 40 {
			h := head{quant, make([]byte, many)}
			want, err := plainPut(h)
			put(t, h, want, err)
		}
	}
}

// TestWholeRefuses tries wrong numbers, with headers that may be and that may not, and numbers that may be, with headers that may not.
func TestWholeRefuses(t *testing.T) {
	c := chance(1)
	bad := []head{{0, nil}, {32, nil}, {-1, nil}, {1, make([]byte, 33)}, {31, c.bytes(100)}, {0, make([]byte, 33)}, {math.MaxInt, nil}, {math.MinInt, c.bytes(2)}}
	for _, number := range append(noNumbers(), 0) {
		for _, h := range append(heads(&c), bad...) {
			join(t, number, h, "", api.ErrRange)
		}
	}
	for number := 1; number < 16; number++ {
		for _, h := range bad {
			join(t, number, h, "", api.ErrArg)
		}
		for _, quant := range noQuants() {
			join(t, number, head{quant, c.bytes(2)}, "", api.ErrArg)
		}
		for _, many := range noSpares() {
			join(t, number, head{number, make([]byte, many)}, "", api.ErrArg)
		}
	}
	for number := -20; number < 40; number++ {
		for quant := -3; quant < 36; quant++ {
			h := head{quant, c.bytes(c.of([]int{0, 1, 32, 33}))}
			want, err := plainWhole(number, h)
			join(t, number, h, want, err)
		}
	}
}

// got looks whether a header that is put is got, at some place, whatever stands ahead and behind.
func got(t *testing.T, c *chance, h head) {
	t.Helper()
	s := bare(h)
	if many := 6 + 9*len(h.spare); len(s) != many {
		t.Fatal(len(s), many)
	}
	put(t, h, s, api.OK)
	at := c.below(40)
	for _, ahead := range []string{"", c.some(at), strings.Repeat("0", at), strings.Repeat("1", at)} {
		for _, fill := range []string{"0", "1"} {
			for _, behind := range []string{"", c.some(1 + c.below(30)), strings.Repeat(fill, 300)} {
				get(t, pack(ahead+s+behind, fill), len(ahead), h, len(s), api.OK)
			}
		}
	}
	b, at := end(s)
	get(t, b, at, h, len(s), api.OK)
}

// TestPutIsGot puts headers of all quantisers, and of all values and numbers of spare bytes, and gets them.
func TestPutIsGot(t *testing.T) {
	c := chance(2)
	for quant := 1; quant < 32; quant++ {
		got(t, &c, head{quant, nil})
		for many := range 33 {
			got(t, &c, head{quant, c.bytes(many)})
		}
	}
	for x := range 256 {
		got(t, &c, head{1 + c.below(31), []byte{byte(x)}})
		got(t, &c, head{1 + c.below(31), append(c.bytes(c.below(32)), byte(x))})
	}
	for many := range 33 {
		got(t, &c, head{1, make([]byte, many)})
		got(t, &c, head{31, bytes.Repeat([]byte{255}, many)})
	}
}

// TestWholeIsOpened opens what is whole, with noughts ahead of it, at some place, whatever stands ahead and behind.
func TestWholeIsOpened(t *testing.T) {
	c := chance(3)
	for number := 1; number < 16; number++ {
		for _, h := range append(heads(&c), c.head(), c.head()) {
			s := whole(number, h)
			join(t, number, h, s, api.OK)
			for _, noughts := range []int{0, 1, 2, 7, 8, 9, 15, 16, 17, 31, 32, 33, c.below(300), 1000} {
				long := strings.Repeat("0", noughts) + s
				at := c.below(40)
				for _, ahead := range []string{"", c.some(at), strings.Repeat("1", at)} {
					open(t, pack(ahead+long+c.some(c.below(30)), "0"), len(ahead), number, h, len(long), api.OK)
				}
				b, at := end(long)
				open(t, b, at, number, h, len(long), api.OK)
			}
		}
	}
}

// TestNoughtsAhead opens one start and header behind each count of noughts.
func TestNoughtsAhead(t *testing.T) {
	h := head{21, []byte{0, 200}}
	s := whole(9, h)
	for noughts := range 600 {
		b := pack("1"+strings.Repeat("0", noughts)+s, "1")
		open(t, b, 1, 9, h, noughts+len(s), api.OK)
		open(t, b, 1+noughts, 9, h, len(s), api.OK)
	}
}

// TestAtAnyPlace gets and opens at each place of some bytes.
func TestAtAnyPlace(t *testing.T) {
	c := chance(4)
	for _, h := range heads(&c) {
		for at := range 70 {
			s := bare(h)
			get(t, pack(c.some(at)+s+c.some(9), "1"), at, h, len(s), api.OK)
			s = whole(15, h)
			open(t, pack(c.some(at)+s+c.some(9), "1"), at, 15, h, len(s), api.OK)
		}
	}
}

// TestGotIsPut gets headers of bits of chance, of which most have spare bytes, and puts them.
func TestGotIsPut(t *testing.T) {
	c := chance(5)
	seen := map[api.Errno]int{}
	for n := range 20000 {
		s := c.some(c.below(400))
		if n%2 == 0 {
			s = c.many(c.below(36)) + c.some(c.below(20))
		}
		at := c.below(9)
		b := pack(s, "0")
		s = spell(b, at)
		h, many, err := plainGet(s)
		get(t, b, at, h, many, err)
		seen[err]++
		if err != api.OK {
			continue
		}
		put(t, h, s[:many], api.OK)
		if len(h.spare) > 32 || many != 6+9*len(h.spare) {
			t.Fatal(h, many)
		}
	}
	if len(seen) != 4 {
		t.Error("some answer never came", seen)
	}
}

// many tells bits of chance which ask for so many spare bytes.
func (c *chance) many(n int) string {
	s := c.some(5)
	for range n {
		s += "1" + c.some(8)
	}
	return s
}

// TestOpenedIsWhole opens bits of chance, of which most begin with noughts, and joins what is opened.
func TestOpenedIsWhole(t *testing.T) {
	c := chance(6)
	seen := map[api.Errno]int{}
	for range 20000 {
		s := strings.Repeat("0", 13+c.below(9)) + c.some(c.below(9)) + c.many(c.of([]int{0, 0, 1, 2, 32, 33})) + c.some(c.below(20))
		b := pack(s, "0")
		at := c.below(4)
		s = spell(b, at)
		number, h, many, err := plainOpen(s)
		open(t, b, at, number, h, many, err)
		seen[err]++
		if err == api.OK {
			one := strings.Index(s, "1")
			join(t, number, h, s[one-15:many], api.OK)
		}
	}
	if len(seen) != 6 {
		t.Error("some answer never came", seen)
	}
}

// TestBitsEnd cuts headers at each place, at the end of all bytes.
func TestBitsEnd(t *testing.T) {
	c := chance(7)
	for _, h := range heads(&c) {
		s := bare(h)
		for many := range len(s) {
			b, at := end(s[:many])
			refused(t, b, at, api.ErrMore)
		}
		b, at := end(s)
		get(t, b, at, h, len(s), api.OK)
		for one := at + 1; one <= len(b)*8; one++ {
			want, many, err := plainGet(s[one-at:])
			get(t, b, one, want, many, err)
		}
	}
}

// TestStartsEnd cuts starts with headers at each place, at the end of all bytes.
func TestStartsEnd(t *testing.T) {
	c := chance(8)
	for _, h := range heads(&c) {
		number := 1 + c.below(15)
		for _, noughts := range []int{0, 1, 8, 13} {
			s := strings.Repeat("0", noughts) + whole(number, h)
			for many := range len(s) {
				b, at := end(s[:many])
				shut(t, b, at, api.ErrMore)
			}
			b, at := end(s)
			open(t, b, at, number, h, len(s), api.OK)
			for one := at + 1; one <= len(b)*8; one++ {
				number, want, many, err := plainOpen(s[one-at:])
				open(t, b, one, number, want, many, err)
			}
		}
	}
}

// TestFiveNoughts puts five noughts in the quantiser's place, with bits that end there, and with more behind.
func TestFiveNoughts(t *testing.T) {
	c := chance(9)
	behind := []string{"", "0", "1", "00000", "10000", "11111111", "1010101010", strings.Repeat("1", 33*9), strings.Repeat("0", 100), c.some(77)}
	for _, x := range behind {
		for ahead := range 17 {
			for _, fill := range []string{"0", "1"} {
				refused(t, pack(c.some(ahead)+"00000"+x, fill), ahead, api.ErrQuant)
				shut(t, pack(c.some(ahead)+"00000000000000011010"+"00000"+x, fill), ahead, api.ErrQuant)
			}
		}
		b, at := end("00000" + x)
		refused(t, b, at, api.ErrQuant)
		refused(t, b, -1-at, api.ErrRange)
		b, at = end("00000000000000010001" + "00000" + x)
		shut(t, b, at, api.ErrQuant)
		shut(t, b, -1-at, api.ErrRange)
	}
	for noughts := range 5 {
		b, at := end(strings.Repeat("0", noughts))
		refused(t, b, at, api.ErrMore)
		b, at = end("00000000000000010001" + strings.Repeat("0", noughts))
		shut(t, b, at, api.ErrMore)
	}
	for at := range 8 {
		want := api.ErrMore
		if at <= 3 {
			want = api.ErrQuant
		}
		refused(t, []byte{0}, at, want)
	}
}

// TestTooManySpareBytes puts a one ahead of a 33rd byte, with bits that end there, and with more behind.
func TestTooManySpareBytes(t *testing.T) {
	c := chance(10)
	for _, l := range [][]byte{make([]byte, 32), bytes.Repeat([]byte{255}, 32), c.bytes(32), c.bytes(32)} {
		h := head{1 + c.below(31), l}
		s := strings.TrimSuffix(bare(h), "0")
		first, _ := plainStart(1 + c.below(15))
		b, at := end(s)
		refused(t, b, at, api.ErrMore)
		b, at = end(s + "0")
		get(t, b, at, h, len(s)+1, api.OK)
		for _, behind := range []string{"", "0", "1", "00000000", "000000000", "11111111", "111111110", "0101010", strings.Repeat("1", 9), strings.Repeat("0", 200), strings.Repeat("1", 200), c.some(77)} {
			for ahead := range 8 {
				for _, fill := range []string{"0", "1"} {
					refused(t, pack(c.some(ahead)+s+"1"+behind, fill), ahead, api.ErrLong)
					shut(t, pack(c.some(ahead)+first+s+"1"+behind, fill), ahead, api.ErrLong)
				}
			}
			b, at = end(s + "1" + behind)
			refused(t, b, at, api.ErrLong)
			refused(t, b, -1-at, api.ErrRange)
			b, at = end(first + s + "1" + behind)
			shut(t, b, at, api.ErrLong)
			shut(t, b, -1-at, api.ErrRange)
		}
	}
	for many := range 100 {
		want := api.ErrMore
		if many*8 >= 5+32*9+1 {
			want = api.ErrLong
		}
		refused(t, bytes.Repeat([]byte{255}, many), 0, want)
		refused(t, bytes.Repeat([]byte{255}, many), -1, api.ErrRange)
	}
}

// TestPicturesAreNotOpened opens starts of the number 0, whatever stands behind.
func TestPicturesAreNotOpened(t *testing.T) {
	c := chance(11)
	for _, noughts := range []int{0, 1, 5, 8, 100} {
		s := strings.Repeat("0", noughts) + "00000000000000010000"
		for _, behind := range []string{"", "0", "00000", "000010", "1111", bare(head{31, c.bytes(32)}), strings.Repeat("1", 400), c.some(60)} {
			for ahead := range 8 {
				shut(t, pack(c.some(ahead)+s+behind, "0"), ahead, api.ErrArg)
			}
			b, at := end(s + behind)
			shut(t, b, at, api.ErrArg)
			shut(t, b, -1-at, api.ErrRange)
		}
		for many := range len(s) {
			b, at := end(s[:many])
			shut(t, b, at, api.ErrMore)
		}
	}
}

// TestNoStart opens bits with too few noughts ahead of the first one, and noughts alone.
func TestNoStart(t *testing.T) {
	c := chance(12)
	for noughts := range 15 {
		s := strings.Repeat("0", noughts) + "1"
		for _, behind := range []string{"", "0", "0011", "0011000010", "0000", whole(3, head{1, nil}), strings.Repeat("0", 50), c.some(50)} {
			for ahead := range 8 {
				shut(t, pack(c.some(ahead)+s+behind, "0"), ahead, api.ErrCode)
			}
			b, at := end(s + behind)
			shut(t, b, at, api.ErrCode)
		}
	}
	for many := range 50 {
		for at := range 8*many + 3 {
			shut(t, make([]byte, many), at, api.ErrMore)
		}
	}
}

// TestPlaces asks for the end of all bits, for places behind it, and for places below 0.
func TestPlaces(t *testing.T) {
	for _, b := range [][]byte{nil, {}, {8}, {255}, {254, 148}, {0, 1, 48, 128}, bytes.Repeat([]byte{255}, 60)} {
		for at := len(b) * 8; at < len(b)*8+40; at++ {
			refused(t, b, at, api.ErrMore)
			shut(t, b, at, api.ErrMore)
		}
		for _, at := range append([]int{-1, -2, -5, -6, -7, -8, -9, -16, -20, -26, -32, -480}, far()...) {
			switch {
			case at < 0:
				refused(t, b, at, api.ErrRange)
				shut(t, b, at, api.ErrRange)
			case at >= len(b)*8:
				refused(t, b, at, api.ErrMore)
				shut(t, b, at, api.ErrMore)
			}
		}
	}
}

// TestReadsNoSpareRoom hands over bytes behind which a header's end would stand.
func TestReadsNoSpareRoom(t *testing.T) {
	for _, h := range []head{{1, nil}, {31, []byte{165, 255, 0}}, {7, make([]byte, 32)}} {
		b := pack(bare(h)+"0000000000", "0")
		for many := range len(b) {
			want, n, err := plainGet(spell(b[:many], 0))
			get(t, b[:many], 0, want, n, err)
		}
		b = pack(whole(5, h)+"0000000000", "0")
		for many := range len(b) {
			number, want, n, err := plainOpen(spell(b[:many], 0))
			open(t, b[:many], 0, number, want, n, err)
		}
	}
	long := bytes.Repeat([]byte{9}, 100)
	for many := range 34 {
		h := head{7, long[:many]}
		want, err := plainPut(h)
		put(t, h, want, err)
		want, err = plainWhole(8, h)
		join(t, 8, h, want, err)
	}
}

// TestGotIsNewMemory writes into what is got and opened, its spare room, too, and into what it was read from.
func TestGotIsNewMemory(t *testing.T) {
	c := chance(13)
	for many := range 33 {
		// At some places a spare byte is a whole one of those that are read, and might be told as a piece of them.
		for ahead := range 9 {
			h := head{5, c.bytes(many)}
			b := pack(c.some(ahead)+whole(2, h), "1")
			was := slices.Clone(b)
			_, x, _, _ := group.Get(b, ahead+20)
			_, y, _, _ := group.Get(b, ahead+20)
			_, _, z, _, _ := group.Open(b, ahead)
			_, _, last, _, _ := group.Open(b, ahead)
			for _, l := range [][]byte{x, z} {
				all := l[:cap(l)]
				for i := range all {
					all[i] ^= 255
				}
			}
			if !bytes.Equal(b, was) || !bytes.Equal(y, h.spare) || !bytes.Equal(last, h.spare) {
				t.Fatal(many, ahead, "shares memory")
			}
			for i := range b {
				b[i] ^= 255
			}
			if !bytes.Equal(y, h.spare) || !bytes.Equal(last, h.spare) {
				t.Fatal(many, ahead, "is kept")
			}
			open(t, was, ahead, 2, h, 26+9*many, api.OK)
		}
	}
}

// TestPutIsKept writes into spare bytes behind Put and Whole, and calls them again.
func TestPutIsKept(t *testing.T) {
	l := []byte{1, 2, 3}
	h := head{4, l}
	want, both := bare(h), whole(6, h)
	s, _ := group.Put(4, l)
	w, _ := group.Whole(6, 4, l)
	clear(l)
	if s != want || w != both {
		t.Fatal(s, w, "not", want, both)
	}
	put(t, h, bare(head{4, make([]byte, 3)}), api.OK)
	join(t, 6, h, whole(6, head{4, make([]byte, 3)}), api.OK)
}

// TestAnswersStay asks for the same again, with errors between.
func TestAnswersStay(t *testing.T) {
	h := head{20, []byte{77, 88}}
	b := pack(bare(h), "1")
	both := pack(whole(12, h), "1")
	for range 5 {
		get(t, b, 0, h, 24, api.OK)
		refused(t, b, -1, api.ErrRange)
		refused(t, b[:2], 0, api.ErrMore)
		refused(t, make([]byte, 9), 3, api.ErrQuant)
		refused(t, bytes.Repeat([]byte{255}, 60), 3, api.ErrLong)
		open(t, both, 0, 12, h, 44, api.OK)
		shut(t, both, -1, api.ErrRange)
		shut(t, both, 1, api.ErrCode)
		shut(t, both[:3], 0, api.ErrMore)
		put(t, h, bare(h), api.OK)
		put(t, head{0, h.spare}, "", api.ErrArg)
		join(t, 12, h, whole(12, h), api.OK)
		join(t, 16, head{0, h.spare}, "", api.ErrRange)
		start(t, 12, "00000000000000011100", api.OK)
		start(t, -1, "", api.ErrRange)
	}
}

func BenchmarkOpen(b *testing.B) {
	l := pack(whole(12, head{20, make([]byte, 32)}), "1")
	for b.Loop() {
		group.Open(l, 0)
	}
}

func BenchmarkWhole(b *testing.B) {
	l := make([]byte, 32)
	for b.Loop() {
		group.Whole(12, 20, l)
	}
}
