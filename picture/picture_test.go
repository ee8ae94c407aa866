package picture_test

import (
	"bytes"
	"math"
	"slices"
	"strings"
	"testing"

	"praxinoscope/api"
	"praxinoscope/picture"
)

// chance is a row of numbers that look like chance and are always the same.
type chance uint64

func (c *chance) below(n int) int {
	*c = *c*6364136223846793005 + 1442695040888963407
	return int(uint64(*c) >> 33 % uint64(n))
}

// of tells one of a list.
func (c *chance) of(l []int) int {
	return l[c.below(len(l))]
}

// some tells so many bits of chance.
func (c *chance) some(n int) string {
	l := make([]byte, n)
	for i := range l {
		l[i] = '0' + byte(c.below(2))
	}
	return string(l)
}

// bytes tells so many bytes of chance.
func (c *chance) bytes(n int) []byte {
	var l []byte
	for range n {
		l = append(l, byte(c.below(256)))
	}
	return l
}

// head tells a header that may be.
func (c *chance) head() api.Head {
	return api.Head{Time: c.below(32), Type: c.below(64), Spare: c.bytes(c.of([]int{0, 0, 1, 2, 3, 7, 31, 32}))}
}

// far tells numbers that lie far from any time and type; cut to fewer bits, some would be one.
func far() []int {
	l := []int{100, 127, 128, 129, 255, 256, 257, 259, 1000, 1 << 16, 1<<16 + 1, 1<<16 + 5, 1 << 31, 1<<31 - 1, 1<<31 + 1, 1 << 32, 1<<32 + 1, 1<<32 + 4, 1<<32 - 1, 1<<32 - 4, 1 << 40, 1<<62 + 1, 1<<62 + 4, math.MaxInt, math.MaxInt - 1, math.MaxInt - 3, math.MaxInt - 4, math.MaxInt - 31, math.MaxInt - 63, math.MaxInt - 64, math.MinInt, math.MinInt + 1, math.MinInt + 4, math.MinInt + 31, math.MinInt + 63}
	for _, n := range slices.Clone(l) {
		l = append(l, -n)
	}
	return l
}

// noTimes tells what is no time.
func noTimes() []int {
	return append([]int{-1, 32, -2, 33, 34, 63, 64, 65, -31, -32, -33}, far()...)
}

// noTypes tells what is no type.
func noTypes() []int {
	return append([]int{-1, 64, -2, 65, 66, 96, 127, 128, -3, -4, -5, -63, -64, -65}, far()...)
}

// noSpares tells how many bytes are too many.
func noSpares() []int {
	return []int{33, 34, 40, 63, 64, 65, 255, 256, 257, 1000, 1 << 16, 1<<16 + 1, 1<<16 + 32}
}

// plainSpell spells a number in so many bits.
func plainSpell(n, many int) string {
	s := ""
	for range many {
		s = string(rune('0'+n%2)) + s
		n /= 2
	}
	return s
}

// plainPut tells a header's bits, by the words of the chapter.
func plainPut(h api.Head) string {
	s := plainSpell(h.Time, 5) + plainSpell(h.Type, 6)
	for _, x := range h.Spare {
		s += "1" + plainSpell(int(x), 8)
	}
	return s + "0"
}

// plainCheck tells what Check must answer, by the words of the promise.
func plainCheck(h api.Head) api.Errno {
	if h.Time < 0 || h.Time > 31 || h.Type < 0 || h.Type > 63 || len(h.Spare) > 32 {
		return api.ErrArg
	}
	return api.OK
}

// plainFormat tells what Format must answer, by a walk over the types from 0 to 63.
func plainFormat(kind int) int {
	kind %= 64
	if kind < 0 {
		kind += 64
	}
	if kind/4%2 == 1 {
		return api.CIF
	}
	return api.QCIF
}

// plainGet tells what Get must answer of a text of bits, from its first one on.
func plainGet(s string) (api.Head, int, api.Errno) {
	was := len(s)
	short := false
	cut := func(many int) int {
		if len(s) < many {
			short = true
			return 0
		}
		n := 0
		for _, x := range s[:many] {
			n = n*2 + int(x-'0')
		}
		s = s[many:]
		return n
	}
	h := api.Head{Time: cut(5), Type: cut(6)}
	for !short {
		if cut(1) == 0 {
			break
		}
		if len(h.Spare) == 32 {
			return api.Head{}, 0, api.ErrLong
		}
		h.Spare = append(h.Spare, byte(cut(8)))
	}
	if short {
		return api.Head{}, 0, api.ErrMore
	}
	return h, was - len(s), api.OK
}

// pack tells the bytes of a text of bits, with the bits of fill behind it.
func pack(s, fill string) []byte {
	for len(s)%8 != 0 {
		s += fill
	}
	var b []byte
	for i := 0; i < len(s); i += 8 {
		n := 0
		for _, x := range s[i : i+8] {
			n = n*2 + int(x-'0')
		}
		b = append(b, byte(n))
	}
	return b
}

// end tells bytes at whose end a text of bits stands, and the place of its first bit.
func end(s string) ([]byte, int) {
	lacks := (8 - len(s)%8) % 8
	return pack(strings.Repeat("1", lacks)+s, ""), lacks
}

// equal tells whether two headers are the same.
func equal(g, h api.Head) bool {
	return g.Time == h.Time && g.Type == h.Type && bytes.Equal(g.Spare, h.Spare)
}

// room looks whether what is put stays as it was, its spare room, too.
func room(t *testing.T, b []byte) func() {
	t.Helper()
	all := b[:cap(b)]
	was := slices.Clone(all)
	return func() {
		t.Helper()
		if !bytes.Equal(all, was) {
			t.Fatal("what was handed over was changed")
		}
	}
}

// check looks whether Check and Put answer what the promises say.
func check(t *testing.T, h api.Head) {
	t.Helper()
	stays := room(t, h.Spare)
	want, text := plainCheck(h), ""
	if want == api.OK {
		text = plainPut(h)
	}
	if e := picture.Check(h); e != want {
		t.Fatalf("Check(%v): %d, not %d", h, e, want)
	}
	put(t, h, text, want)
	stays()
}

// put looks whether Put answers just this.
func put(t *testing.T, h api.Head, want string, err api.Errno) {
	t.Helper()
	if s, e := picture.Put(h); s != want || e != err {
		t.Fatalf("Put(%v): %q, %d, not %q, %d", h, s, e, want, err)
	}
}

// format looks whether Format answers just this.
func format(t *testing.T, h api.Head, want int) {
	t.Helper()
	stays := room(t, h.Spare)
	if n := picture.Format(h); n != want {
		t.Fatalf("Format(%v): %d, not %d", h, n, want)
	}
	stays()
}

// get looks whether Get answers just this, and leaves the bytes.
func get(t *testing.T, b []byte, at int, want api.Head, many int, err api.Errno) {
	t.Helper()
	stays := room(t, b)
	h, n, e := picture.Get(b, at)
	if !equal(h, want) || n != many || e != err {
		t.Fatalf("Get(%v, %d): %v, %d, %d, not %v, %d, %d", b, at, h, n, e, want, many, err)
	}
	stays()
}

// refused looks whether Get answers an error, and nothing beside it.
func refused(t *testing.T, b []byte, at int, err api.Errno) {
	t.Helper()
	get(t, b, at, api.Head{}, 0, err)
}

func TestExamples(t *testing.T) {
	h := api.Head{Time: 3, Type: 4}
	put(t, h, "000110001000", api.OK)
	format(t, h, api.CIF)
	format(t, api.Head{Type: 3}, api.QCIF)
	put(t, api.Head{Time: 32}, "", api.ErrArg)
	put(t, api.Head{Spare: []byte{165}}, "00000"+"000000"+"1"+"10100101"+"0", api.OK)
	get(t, []byte{24, 128}, 0, h, 12, api.OK)
	refused(t, []byte{24}, 0, api.ErrMore)
	refused(t, []byte{24, 128}, -1, api.ErrRange)
}

// TestCheckTellsWhatMayBe tries each time with each type, and each number of spare bytes.
func TestCheckTellsWhatMayBe(t *testing.T) {
	for time := -3; time < 70; time++ {
		for kind := -3; kind < 70; kind++ {
			check(t, api.Head{Time: time, Type: kind})
		}
	}
	c := chance(1)
	for many := range 40 {
		for _, h := range []api.Head{{}, {Time: 31, Type: 63}, {Time: 32}, {Time: -1}, {Type: 64}, {Type: -1}} {
			h.Spare = c.bytes(many)
			check(t, h)
		}
	}
	if e := picture.Check(api.Head{Time: 31, Type: 63, Spare: make([]byte, 32)}); e != api.OK {
		t.Error(e)
	}
}

// TestCheckRefuses tries a time, a type and spare bytes that may not be, alone and together.
func TestCheckRefuses(t *testing.T) {
	for _, time := range noTimes() {
		check(t, api.Head{Time: time})
		check(t, api.Head{Time: time, Type: 63, Spare: []byte{1}})
		for _, kind := range noTypes() {
			check(t, api.Head{Time: time, Type: kind, Spare: make([]byte, 33)})
		}
	}
	for _, kind := range noTypes() {
		check(t, api.Head{Type: kind})
		check(t, api.Head{Time: 31, Type: kind, Spare: []byte{1}})
	}
	for _, many := range noSpares() {
		check(t, api.Head{Spare: make([]byte, many)})
		check(t, api.Head{Time: 31, Type: 63, Spare: bytes.Repeat([]byte{255}, many)})
	}
}

// TestFormat asks for types of both signs, also of headers that may not be.
func TestFormat(t *testing.T) {
	for _, x := range []struct{ kind, want int }{
		{0, api.QCIF}, {1, api.QCIF}, {3, api.QCIF}, {4, api.CIF}, {5, api.CIF}, {7, api.CIF}, {8, api.QCIF}, {11, api.QCIF}, {12, api.CIF}, {15, api.CIF}, {16, api.QCIF}, {59, api.QCIF}, {60, api.CIF}, {63, api.CIF},
		{64, api.QCIF}, {67, api.QCIF}, {68, api.CIF}, {71, api.CIF}, {72, api.QCIF}, {-1, api.CIF}, {-4, api.CIF}, {-5, api.QCIF}, {-8, api.QCIF}, {-9, api.CIF}, {-60, api.CIF}, {-61, api.QCIF}, {-64, api.QCIF}, {-65, api.CIF},
		{math.MaxInt, api.CIF}, {math.MaxInt - 3, api.CIF}, {math.MaxInt - 4, api.QCIF}, {math.MinInt, api.QCIF}, {math.MinInt + 3, api.QCIF}, {math.MinInt + 4, api.CIF},
	} {
		format(t, api.Head{Type: x.kind}, x.want)
	}
	seen := map[int]int{}
	for kind := -1000; kind <= 1000; kind++ {
		want := plainFormat(kind)
		seen[want]++
		for _, h := range []api.Head{{}, {Time: 31}, {Time: -1}, {Time: 32, Spare: make([]byte, 33)}, {Spare: []byte{4}}} {
			h.Type = kind
			format(t, h, want)
		}
	}
	if len(seen) != 2 {
		t.Error("some format never came", seen)
	}
	for _, kind := range append(noTypes(), noTimes()...) {
		format(t, api.Head{Type: kind}, plainFormat(kind))
	}
}

// TestPutSignBySign looks at where each part stands.
func TestPutSignBySign(t *testing.T) {
	for _, x := range []struct {
		h    api.Head
		want string
	}{
		{api.Head{}, "00000 000000 0"},
		{api.Head{Spare: []byte{}}, "00000 000000 0"},
		{api.Head{Time: 31}, "11111 000000 0"},
		{api.Head{Type: 63}, "00000 111111 0"},
		{api.Head{Time: 31, Type: 63}, "11111 111111 0"},
		{api.Head{Time: 1, Type: 1}, "00001 000001 0"},
		{api.Head{Time: 16, Type: 32}, "10000 100000 0"},
		{api.Head{Time: 10, Type: 22}, "01010 010110 0"},
		{api.Head{Time: 5, Type: 9, Spare: []byte{1}}, "00101 001001 1 00000001 0"},
		{api.Head{Time: 5, Type: 9, Spare: []byte{128, 0}}, "00101 001001 1 10000000 1 00000000 0"},
		{api.Head{Spare: []byte{255, 0, 90}}, "00000 000000 1 11111111 1 00000000 1 01011010 0"},
		{api.Head{Time: 31, Type: 63, Spare: bytes.Repeat([]byte{255}, 32)}, "11111 111111 " + strings.Repeat("1 11111111 ", 32) + "0"},
		{api.Head{Spare: make([]byte, 32)}, "00000 000000 " + strings.Repeat("1 00000000 ", 32) + "0"},
	} {
		put(t, x.h, strings.ReplaceAll(x.want, " ", ""), api.OK)
	}
}

// TestPutIsGot puts headers of all times and types, and of all values and numbers of spare bytes, and gets them.
func TestPutIsGot(t *testing.T) {
	c := chance(2)
	for time := range 32 {
		for kind := range 64 {
			got(t, &c, api.Head{Time: time, Type: kind})
			got(t, &c, api.Head{Time: time, Type: kind, Spare: c.bytes(1 + c.below(32))})
		}
	}
	for x := range 256 {
		got(t, &c, api.Head{Time: c.below(32), Type: c.below(64), Spare: []byte{byte(x)}})
		got(t, &c, api.Head{Time: c.below(32), Type: c.below(64), Spare: append(c.bytes(c.below(32)), byte(x))})
	}
	for many := range 33 {
		got(t, &c, api.Head{Spare: make([]byte, many)})
		got(t, &c, api.Head{Time: 31, Type: 63, Spare: bytes.Repeat([]byte{255}, many)})
		got(t, &c, api.Head{Time: c.below(32), Type: c.below(64), Spare: c.bytes(many)})
	}
}

// got looks whether a header that is put is got, at some place, whatever stands ahead and behind.
func got(t *testing.T, c *chance, h api.Head) {
	t.Helper()
	check(t, h)
	s := plainPut(h)
	if many := 12 + 9*len(h.Spare); len(s) != many {
		t.Fatal(len(s), many)
	}
	at := c.below(40)
	for _, ahead := range []string{"", c.some(at), strings.Repeat("0", at), strings.Repeat("1", at)} {
		for _, fill := range []string{"0", "1"} {
			for _, behind := range []string{"", c.some(1 + c.below(30)), strings.Repeat(fill, 300)} {
				get(t, pack(ahead+s+behind, fill), len(ahead), h, len(s), api.OK)
			}
		}
	}
	b, at := end(s)
	get(t, b, at, h, len(s), api.OK)
}

// TestGetAtAnyPlace gets one header at each place of some bytes.
func TestGetAtAnyPlace(t *testing.T) {
	c := chance(3)
	for _, h := range []api.Head{{}, {Time: 31, Type: 63}, {Time: 3, Type: 4, Spare: []byte{165}}, {Time: 21, Type: 42, Spare: c.bytes(32)}} {
		s := plainPut(h)
		for at := range 70 {
			get(t, pack(c.some(at)+s+c.some(9), "1"), at, h, len(s), api.OK)
		}
	}
}

// TestGotIsPut gets headers of bits of chance, of which most have spare bytes, and puts them.
func TestGotIsPut(t *testing.T) {
	c := chance(4)
	seen := map[api.Errno]int{}
	for n := range 20000 {
		s := c.some(c.below(400))
		if n%2 == 0 {
			s = c.many(c.below(36)) + c.some(c.below(20))
		}
		b := pack(s, "0")
		s += strings.Repeat("0", len(b)*8-len(s))
		at := c.below(9)
		h, many, err := plainGet(s[min(at, len(s)):])
		get(t, b, at, h, many, err)
		seen[err]++
		if err != api.OK {
			continue
		}
		put(t, h, s[at:at+many], api.OK)
		if len(h.Spare) > 32 || many != 12+9*len(h.Spare) {
			t.Fatal(h, many)
		}
	}
	if len(seen) != 3 {
		t.Error("some answer never came", seen)
	}
}

// many tells bits of chance which ask for so many spare bytes.
func (c *chance) many(n int) string {
	s := c.some(11)
	for range n {
		s += "1" + c.some(8)
	}
	return s
}

// TestBitsEnd cuts headers at each place, at the end of all bytes.
func TestBitsEnd(t *testing.T) {
	c := chance(5)
	for _, h := range []api.Head{{}, {Time: 31, Type: 63}, {Spare: []byte{0}}, {Spare: []byte{255, 255}}, {Time: 17, Type: 9, Spare: c.bytes(31)}, {Time: 31, Type: 63, Spare: bytes.Repeat([]byte{255}, 32)}, {Spare: make([]byte, 32)}, c.head()} {
		s := plainPut(h)
		for many := range len(s) {
			b, at := end(s[:many])
			refused(t, b, at, api.ErrMore)
		}
		b, at := end(s)
		get(t, b, at, h, len(s), api.OK)
		for one := at + 1; one <= len(b)*8; one++ {
			want, many, err := plainGet(s[one-at:])
			get(t, b, one, want, many, err)
		}
	}
}

// TestPlaces asks for the end of all bits, for places behind it, and for places below 0.
func TestPlaces(t *testing.T) {
	for _, b := range [][]byte{nil, {}, {0}, {255}, {24, 128}, make([]byte, 60), bytes.Repeat([]byte{255}, 60)} {
		for at := len(b)*8 - 11; at < len(b)*8+40; at++ {
			if at >= 0 {
				refused(t, b, at, api.ErrMore)
			}
		}
		for _, n := range append([]int{-1, -2, -7, -8, -9, -11, -12, -16, -480}, far()...) {
			switch {
			case n < 0:
				refused(t, b, n, api.ErrRange)
			case n >= len(b)*8:
				refused(t, b, n, api.ErrMore)
			}
		}
	}
}

// TestTooManySpareBytes puts a one ahead of a 33rd byte, with bits that end there, and with more behind.
func TestTooManySpareBytes(t *testing.T) {
	c := chance(6)
	for _, l := range [][]byte{make([]byte, 32), bytes.Repeat([]byte{255}, 32), c.bytes(32), c.bytes(32)} {
		h := api.Head{Time: c.below(32), Type: c.below(64), Spare: l}
		s := strings.TrimSuffix(plainPut(h), "0")
		b, at := end(s)
		refused(t, b, at, api.ErrMore)
		b, at = end(s + "0")
		get(t, b, at, h, len(s)+1, api.OK)
		for _, behind := range []string{"", "0", "1", "00000000", "000000000", "11111111", "111111110", "0101010", strings.Repeat("1", 9), strings.Repeat("0", 200), strings.Repeat("1", 200), c.some(77)} {
			for ahead := range 8 {
				refused(t, pack(c.some(ahead)+s+"1"+behind, "1"), ahead, api.ErrLong)
				refused(t, pack(c.some(ahead)+s+"1"+behind, "0"), ahead, api.ErrLong)
			}
			b, at = end(s + "1" + behind)
			refused(t, b, at, api.ErrLong)
			refused(t, b, -1-at, api.ErrRange)
		}
	}
	for many := range 100 {
		want := api.ErrMore
		if many*8 >= 11+32*9+1 {
			want = api.ErrLong
		}
		refused(t, bytes.Repeat([]byte{255}, many), 0, want)
		refused(t, bytes.Repeat([]byte{255}, many), -1, api.ErrRange)
	}
}

// TestGetReadsNoSpareRoom hands over bytes behind which a header's end would stand.
func TestGetReadsNoSpareRoom(t *testing.T) {
	for _, h := range []api.Head{{Time: 3, Type: 4}, {Time: 31, Type: 63, Spare: []byte{165, 255, 0}}, {Spare: make([]byte, 32)}} {
		b := pack(plainPut(h)+"0000000000", "0")
		for many := range len(b) {
			want, n, err := plainGet((plainPut(h) + "0000000000")[:min(many*8, len(plainPut(h)))])
			get(t, b[:many], 0, want, n, err)
		}
	}
}

// TestPutReadsNoSpareRoom puts a header whose Spare has more bytes behind it.
func TestPutReadsNoSpareRoom(t *testing.T) {
	l := []byte{1, 2, 3, 4, 5, 6, 7, 8}
	for many := range len(l) {
		check(t, api.Head{Time: 7, Type: 8, Spare: l[:many]})
	}
	long := bytes.Repeat([]byte{9}, 100)
	for many := range 34 {
		check(t, api.Head{Time: 7, Type: 8, Spare: long[:many]})
	}
}

// TestGotIsNewMemory writes into what is got, its spare room, too, and into what it was got from.
func TestGotIsNewMemory(t *testing.T) {
	c := chance(7)
	for many := range 33 {
		// At some places a spare byte is a whole one of those that are read, and might be told as a piece of them.
		for ahead := range 9 {
			h := api.Head{Time: 5, Type: 6, Spare: c.bytes(many)}
			b := pack(c.some(ahead)+plainPut(h), "1")
			was := slices.Clone(b)
			x, n, _ := picture.Get(b, ahead)
			y, _, _ := picture.Get(b, ahead)
			all := x.Spare[:cap(x.Spare)]
			for i := range all {
				all[i] ^= 255
			}
			if !bytes.Equal(b, was) || !equal(y, h) {
				t.Fatal(many, ahead, "shares memory")
			}
			for i := range b {
				b[i] ^= 255
			}
			if !equal(y, h) {
				t.Fatal(many, ahead, "is kept")
			}
			get(t, was, ahead, h, n, api.OK)
		}
	}
}

// TestPutIsKept writes into Spare behind a Put, and puts again.
func TestPutIsKept(t *testing.T) {
	l := []byte{1, 2, 3}
	h := api.Head{Time: 1, Type: 2, Spare: l}
	want := plainPut(h)
	s, _ := picture.Put(h)
	clear(l)
	if s != want {
		t.Fatal(s, "not", want)
	}
	put(t, h, plainPut(api.Head{Time: 1, Type: 2, Spare: make([]byte, 3)}), api.OK)
}

// TestAnswersStay asks for the same again, with errors between.
func TestAnswersStay(t *testing.T) {
	h := api.Head{Time: 9, Type: 20, Spare: []byte{77, 88}}
	b := pack(plainPut(h), "1")
	for range 5 {
		get(t, b, 0, h, 30, api.OK)
		refused(t, b, -1, api.ErrRange)
		refused(t, b[:2], 0, api.ErrMore)
		refused(t, bytes.Repeat([]byte{255}, 60), 3, api.ErrLong)
		check(t, h)
		check(t, api.Head{Time: 32, Type: 20, Spare: h.Spare})
		format(t, h, api.CIF)
		format(t, api.Head{Type: -20}, api.CIF)
		format(t, api.Head{Type: -24}, api.QCIF)
	}
}

func BenchmarkGet(b *testing.B) {
	l := pack(plainPut(api.Head{Time: 9, Type: 20, Spare: make([]byte, 32)}), "1")
	for b.Loop() {
		picture.Get(l, 0)
	}
}

func BenchmarkPut(b *testing.B) {
	h := api.Head{Time: 9, Type: 20, Spare: make([]byte, 32)}
	for b.Loop() {
		picture.Put(h)
	}
}
