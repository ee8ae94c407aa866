package coeff_test

import (
	"bytes"
	"math"
	"slices"
	"strconv"
	"strings"
	"testing"

	"praxinoscope/api"
	"praxinoscope/bits"
	"praxinoscope/coeff"
	"praxinoscope/prefix"
)

// table tells the codes of the document's table, which are followed by a sign, each with its pair.
func table() map[string]api.Pair {
	return map[string]api.Pair{
		"11": {Run: 0, Level: 1}, "0100": {Run: 0, Level: 2}, "00101": {Run: 0, Level: 3}, "0000110": {Run: 0, Level: 4},
		"00100110": {Run: 0, Level: 5}, "00100001": {Run: 0, Level: 6}, "0000001010": {Run: 0, Level: 7}, "000000011101": {Run: 0, Level: 8},
		"000000011000": {Run: 0, Level: 9}, "000000010011": {Run: 0, Level: 10}, "000000010000": {Run: 0, Level: 11}, "0000000011010": {Run: 0, Level: 12},
		"0000000011001": {Run: 0, Level: 13}, "0000000011000": {Run: 0, Level: 14}, "0000000010111": {Run: 0, Level: 15},
		"011": {Run: 1, Level: 1}, "000110": {Run: 1, Level: 2}, "00100101": {Run: 1, Level: 3}, "0000001100": {Run: 1, Level: 4},
		"000000011011": {Run: 1, Level: 5}, "0000000010110": {Run: 1, Level: 6}, "0000000010101": {Run: 1, Level: 7},
		"0101": {Run: 2, Level: 1}, "0000100": {Run: 2, Level: 2}, "0000001011": {Run: 2, Level: 3}, "000000010100": {Run: 2, Level: 4}, "0000000010100": {Run: 2, Level: 5},
		"00111": {Run: 3, Level: 1}, "00100100": {Run: 3, Level: 2}, "000000011100": {Run: 3, Level: 3}, "0000000010011": {Run: 3, Level: 4},
		"00110": {Run: 4, Level: 1}, "0000001111": {Run: 4, Level: 2}, "000000010010": {Run: 4, Level: 3},
		"000111": {Run: 5, Level: 1}, "0000001001": {Run: 5, Level: 2}, "0000000010010": {Run: 5, Level: 3},
		"000101": {Run: 6, Level: 1}, "000000011110": {Run: 6, Level: 2},
		"000100": {Run: 7, Level: 1}, "000000010101": {Run: 7, Level: 2},
		"0000111": {Run: 8, Level: 1}, "000000010001": {Run: 8, Level: 2},
		"0000101": {Run: 9, Level: 1}, "0000000010001": {Run: 9, Level: 2},
		"00100111": {Run: 10, Level: 1}, "0000000010000": {Run: 10, Level: 2},
		"00100011": {Run: 11, Level: 1}, "00100010": {Run: 12, Level: 1}, "00100000": {Run: 13, Level: 1}, "0000001110": {Run: 14, Level: 1},
		"0000001101": {Run: 15, Level: 1}, "0000001000": {Run: 16, Level: 1}, "000000011111": {Run: 17, Level: 1}, "000000011010": {Run: 18, Level: 1},
		"000000011001": {Run: 19, Level: 1}, "000000010111": {Run: 20, Level: 1}, "000000010110": {Run: 21, Level: 1}, "0000000011111": {Run: 22, Level: 1},
		"0000000011110": {Run: 23, Level: 1}, "0000000011101": {Run: 24, Level: 1}, "0000000011100": {Run: 25, Level: 1}, "0000000011011": {Run: 26, Level: 1},
	}
}

// signed tells the codes of the table with their signs, at first or later.
func signed(first bool) map[string]api.Pair {
	all := map[string]api.Pair{}
	for code, p := range table() {
		if code == "11" && first {
			code = "1"
		}
		all[code+"0"] = p
		all[code+"1"] = api.Pair{Run: p.Run, Level: -p.Level}
	}
	return all
}

// escape tells the escape of a run and eight bits.
func escape(run, eight int) string {
	return "000001" + strconv.FormatInt(int64(64+run), 2)[1:] + strconv.FormatInt(int64(256+eight), 2)[1:]
}

// chance is a row of numbers that look like chance and are always the same.
type chance uint64

func (c *chance) below(n int) int {
	*c = *c*6364136223846793005 + 1442695040888963407
	return int(uint64(*c) >> 33 % uint64(n))
}

// some tells so many bits of chance.
func (c *chance) some(n int) string {
	s := ""
	for range n {
		s += strconv.Itoa(c.below(2))
	}
	return s
}

// pair tells a pair of chance, of which many are in the table.
func (c *chance) pair() api.Pair {
	p := api.Pair{Run: c.below(64), Level: 1 + c.below(127)}
	switch c.below(4) {
	case 0:
		p = api.Pair{Run: c.below(4), Level: 1 + c.below(6)}
	case 1:
		p = api.Pair{Run: c.below(30), Level: 1 + c.below(2)}
	}
	if c.below(2) == 0 {
		p.Level = -p.Level
	}
	return p
}

// spell tells the bits of b as a text, by the library alone.
func spell(b []byte) string {
	s := ""
	for _, x := range b {
		s += strconv.FormatInt(256+int64(x), 2)[1:]
	}
	return s
}

// pack tells the bytes of a text of bits, with the bits of fill behind it.
func pack(s, fill string) []byte {
	for len(s)%8 != 0 {
		s += fill
	}
	var b []byte
	for i := 0; i < len(s); i += 8 {
		n, err := strconv.ParseUint(s[i:i+8], 2, 8)
		if err != nil {
			panic(err)
		}
		b = append(b, byte(n))
	}
	return b
}

// end tells bytes at whose end a text of bits stands, and the place of its first bit.
func end(s string) ([]byte, int) {
	lacks := (8 - len(s)%8) % 8
	return pack(strings.Repeat("1", lacks)+s, ""), lacks
}

// answer is what Get answers.
type answer struct {
	p    api.Pair
	end  bool
	many int
	err  api.Errno
}

// pairOf tells the answer that is a pair, fault the one that is an error.
func pairOf(run, level, many int) answer {
	return answer{api.Pair{Run: run, Level: level}, false, many, api.OK}
}
func fault(err api.Errno) answer { return answer{err: err} }

// theEnd is the answer that is the end.
var theEnd = answer{end: true, many: 2}

// got looks whether Get answers just this.
func got(t *testing.T, b []byte, at int, first bool, want answer) {
	t.Helper()
	p, end, many, err := coeff.Get(b, at, first)
	if a := (answer{p, end, many, err}); a != want {
		t.Fatalf("Get(%v, %d, %t): %v, not %v", b, at, first, a, want)
	}
}

// put looks whether Put answers just this.
func put(t *testing.T, run, level int, first bool, code string, err api.Errno) {
	t.Helper()
	if s, e := coeff.Put(api.Pair{Run: run, Level: level}, first); s != code || e != err {
		t.Fatalf("Put(%d %d, %t): %q, %d, not %q, %d", run, level, first, s, e, code, err)
	}
}

// escaped looks whether Escape answers just this.
func escaped(t *testing.T, run, level int, code string, err api.Errno) {
	t.Helper()
	if s, e := coeff.Escape(api.Pair{Run: run, Level: level}); s != code || e != err {
		t.Fatalf("Escape(%d %d): %q, %d, not %q, %d", run, level, s, e, code, err)
	}
}

// far tells numbers that lie far from any run and any level; of some the last eight bits would be one.
func far() []int {
	return []int{256, 257, -256, -255, 1000, -1000, 1 << 16, 1<<16 + 1, 1 << 31, 1<<32 + 1, -1<<32 + 5, 1 << 40, -1 << 40, math.MaxInt - 1, math.MaxInt, math.MinInt, math.MinInt + 1}
}

// plain tells what Get must answer of a text of bits, by the words of the promise.
func plain(s string, first bool, codes map[string]api.Pair) answer {
	if strings.HasPrefix(s, "000001") && len(s) >= 20 {
		run, _ := strconv.ParseInt(s[6:12], 2, 32)
		level, _ := strconv.ParseInt(s[12:20], 2, 32)
		switch {
		case level == 0 || level == 128:
			return fault(api.ErrLevel)
		case level > 128:
			level -= 256
		}
		return pairOf(int(run), int(level), 20)
	}
	if !first && strings.HasPrefix(s, "10") {
		return theEnd
	}
	begins := strings.HasPrefix("000001", s) || strings.HasPrefix(s, "000001") || !first && strings.HasPrefix("10", s)
	for n := range min(len(s), 14) + 1 {
		if p, is := codes[s[:n]]; is {
			return pairOf(p.Run, p.Level, n)
		}
	}
	for code := range codes {
		begins = begins || strings.HasPrefix(code, s)
	}
	if begins {
		return fault(api.ErrMore)
	}
	return fault(api.ErrCode)
}

func TestExamples(t *testing.T) {
	got(t, []byte{128}, 0, true, pairOf(0, 1, 2))
	got(t, []byte{192}, 0, true, pairOf(0, -1, 2))
	got(t, []byte{128}, 0, false, theEnd)
	got(t, []byte{192}, 0, false, pairOf(0, 1, 3))
	got(t, []byte{224}, 0, false, pairOf(0, -1, 3))
	got(t, []byte{64}, 0, false, pairOf(0, 2, 5))
	got(t, []byte{72}, 0, false, pairOf(0, -2, 5))
	got(t, []byte{4, 3, 16}, 0, false, pairOf(0, 49, 20))
	got(t, []byte{4, 0, 0}, 0, true, fault(api.ErrLevel))
	got(t, []byte{0, 32}, 0, true, fault(api.ErrCode))
	got(t, []byte{4}, 0, true, fault(api.ErrMore))
	put(t, 0, 1, true, "10", api.OK)
	put(t, 0, 1, false, "110", api.OK)
	put(t, 26, -1, true, "00000000110111", api.OK)
	put(t, 27, 1, true, "00000101101100000001", api.OK)
	escaped(t, 0, -1, "00000100000011111111", api.OK)
	put(t, 0, 0, true, "", api.ErrRange)
	if coeff.Short(api.Pair{Run: 1, Level: 8}) {
		t.Error("1 8 is short")
	}
}

// TestTableIsRead gets each code of the table with both signs, first and later, at each bit of a byte, whatever stands ahead and behind.
func TestTableIsRead(t *testing.T) {
	for _, first := range []bool{false, true} {
		all := signed(first)
		if len(all) != 126 {
			t.Fatal("the table has", len(all))
		}
		for code, p := range all {
			want := pairOf(p.Run, p.Level, len(code))
			for at := range 17 {
				for _, ahead := range []string{strings.Repeat("0", at), strings.Repeat("1", at)} {
					got(t, pack(ahead+code, "0"), at, first, want)
					got(t, pack(ahead+code, "1"), at, first, want)
					got(t, pack(ahead+code+strings.Repeat("0", 20), "1"), at, first, want)
					got(t, pack(ahead+code+strings.Repeat("1", 20), "0"), at, first, want)
				}
			}
			b, at := end(code)
			got(t, b, at, first, want)
		}
	}
}

// TestTableIsWritten puts each pair of the table with both signs, first and later.
func TestTableIsWritten(t *testing.T) {
	for _, first := range []bool{false, true} {
		for code, p := range signed(first) {
			put(t, p.Run, p.Level, first, code, api.OK)
		}
	}
}

// TestEscapesAreRead gets the escape of every run and of all eights of bits, first and later.
func TestEscapesAreRead(t *testing.T) {
	c := chance(1)
	for run := range 64 {
		for eight := range 256 {
			want := pairOf(run, eight, 20)
			switch {
			case eight == 0 || eight == 128:
				want = fault(api.ErrLevel)
			case eight > 128:
				want = pairOf(run, eight-256, 20)
			}
			at := c.below(17)
			code := escape(run, eight)
			for _, first := range []bool{false, true} {
				got(t, pack(c.some(at)+code+c.some(c.below(20)), c.some(1)), at, first, want)
				b, place := end(code)
				got(t, b, place, first, want)
				b, place = end(code[:19])
				got(t, b, place, first, fault(api.ErrMore))
			}
		}
	}
}

// TestEscapesAreWritten escapes every pair, those of the table as well, and puts all that are not short.
func TestEscapesAreWritten(t *testing.T) {
	codes := signed(false)
	short := map[api.Pair]bool{}
	for _, p := range codes {
		short[p] = true
	}
	many := 0
	for run := range 64 {
		for level := -127; level <= 127; level++ {
			if level == 0 {
				continue
			}
			code := escape(run, level&255)
			escaped(t, run, level, code, api.OK)
			p := api.Pair{Run: run, Level: level}
			if coeff.Short(p) != short[p] {
				t.Fatal("Short", p, !short[p])
			}
			if short[p] {
				many++
				continue
			}
			put(t, run, level, true, code, api.OK)
			put(t, run, level, false, code, api.OK)
		}
	}
	if many != 126 {
		t.Error("so many are short:", many)
	}
}

func TestShortOfWhatIsNoPair(t *testing.T) {
	for _, p := range noPairs() {
		if coeff.Short(p) {
			t.Error("Short", p)
		}
	}
}

// noPairs tells runs and levels that are no pair.
func noPairs() []api.Pair {
	none := []api.Pair{{}, {Run: 1}, {Run: 26}, {Run: 63}, {Run: -1, Level: 1}, {Run: 64, Level: 1}, {Run: 64, Level: -1}, {Run: -1}, {Run: 64}, {Run: 65, Level: 5}, {Run: -64, Level: 1}, {Run: 127, Level: 1}}
	for _, run := range []int{0, 1, 26, 27, 63} {
		for _, level := range []int{128, -128, 129, -129, 255, -255} {
			none = append(none, api.Pair{Run: run, Level: level})
		}
		for _, level := range far() {
			none = append(none, api.Pair{Run: run, Level: level})
		}
	}
	for _, run := range far() {
		for _, level := range []int{1, -1, 127, 0, 128, math.MinInt} {
			none = append(none, api.Pair{Run: run, Level: level})
		}
	}
	return none
}

func TestPutRefusesWhatIsNoPair(t *testing.T) {
	for _, p := range noPairs() {
		put(t, p.Run, p.Level, true, "", api.ErrRange)
		put(t, p.Run, p.Level, false, "", api.ErrRange)
		escaped(t, p.Run, p.Level, "", api.ErrRange)
	}
}

// TestEdgesOfPairs puts the least and the greatest of runs and levels.
func TestEdgesOfPairs(t *testing.T) {
	put(t, 0, 127, true, "00000100000001111111", api.OK)
	put(t, 0, -127, false, "00000100000010000001", api.OK)
	put(t, 63, 1, false, "00000111111100000001", api.OK)
	put(t, 63, 127, true, "00000111111101111111", api.OK)
	put(t, 63, -127, false, "00000111111110000001", api.OK)
	put(t, 0, -1, true, "11", api.OK)
	put(t, 0, -1, false, "111", api.OK)
	put(t, 0, 15, false, "00000000101110", api.OK)
	put(t, 0, 16, false, "00000100000000010000", api.OK)
	escaped(t, 0, 1, "00000100000000000001", api.OK)
	escaped(t, 63, -127, "00000111111110000001", api.OK)
}

func TestEnd(t *testing.T) {
	if s := coeff.End(); s != "10" {
		t.Error("the end is", s)
	}
	for at := range 17 {
		for _, behind := range []string{"", "0", "1", "00000000000000000000", "11111111111111111111"} {
			s := strings.Repeat("0", at) + coeff.End() + behind
			got(t, pack(s, "0"), at, false, theEnd)
			got(t, pack(s, "1"), at, false, theEnd)
			got(t, pack(s, "0"), at, true, pairOf(0, 1, 2))
		}
	}
}

// TestSingleBits gets what is cut off behind a one: later it may be the end or a pair, at first its sign lacks.
func TestSingleBits(t *testing.T) {
	for _, first := range []bool{false, true} {
		got(t, []byte{1}, 7, first, fault(api.ErrMore))
		got(t, []byte{0}, 7, first, fault(api.ErrMore))
		got(t, nil, 0, first, fault(api.ErrMore))
	}
	got(t, []byte{3}, 6, false, fault(api.ErrMore))
	got(t, []byte{3}, 6, true, pairOf(0, -1, 2))
	got(t, []byte{2}, 6, false, theEnd)
	got(t, []byte{2}, 6, true, pairOf(0, 1, 2))
	got(t, []byte{6}, 5, false, pairOf(0, 1, 3))
	got(t, []byte{6}, 5, true, pairOf(0, -1, 2))
	got(t, []byte{7}, 5, false, pairOf(0, -1, 3))
}

// TestNoughts counts noughts at the end, and ahead of a one: nine of them begin no code.
func TestNoughts(t *testing.T) {
	for _, first := range []bool{false, true} {
		for n := range 30 {
			for at := range 9 {
				ahead := strings.Repeat("1", at) + strings.Repeat("0", n)
				want := fault(api.ErrMore)
				if n >= 9 {
					want = fault(api.ErrCode)
					got(t, pack(ahead+"1111111", "1"), at, first, want)
					got(t, pack(ahead+"0111111", "1"), at, first, want)
				}
				b, place := end(ahead)
				got(t, b, place+at, first, want)
			}
		}
		got(t, []byte{0}, 0, first, fault(api.ErrMore))
		got(t, []byte{0, 128}, 0, first, pairOf(10, 2, 14))
		got(t, []byte{0, 128}, 1, first, pairOf(0, 11, 13))
		got(t, []byte{0, 127}, 0, first, fault(api.ErrCode))
	}
}

// TestPlacesBehindTheEnd asks where there are no bits: a code may still come.
func TestPlacesBehindTheEnd(t *testing.T) {
	for _, first := range []bool{false, true} {
		for _, b := range [][]byte{nil, {}, {128}, {0}, {255, 255}, {0, 0, 0}, {4, 0, 0}} {
			for _, behind := range []int{0, 1, 7, 8, 9, 1 << 31, 1 << 40, math.MaxInt/8 - 1, math.MaxInt - 40} {
				got(t, b, 8*len(b)+behind, first, fault(api.ErrMore))
			}
			for _, at := range []int{math.MaxInt - 20, math.MaxInt - 1, math.MaxInt} {
				got(t, b, at, first, fault(api.ErrMore))
			}
		}
	}
}

// TestPlacesBelowNought asks at places below 0, of bits that would be each other answer.
func TestPlacesBelowNought(t *testing.T) {
	for _, first := range []bool{false, true} {
		for _, b := range [][]byte{nil, {}, {4}, {128}, {192}, {0, 32}, {4, 3, 16}, {4, 0, 0}, {4, 8, 0}} {
			for _, at := range []int{-1, -2, -7, -8, -9, -20, -1 << 31, -1 << 40, math.MinInt + 1, math.MinInt} {
				got(t, b, at, first, fault(api.ErrRange))
			}
		}
	}
}

// TestGetOfAllBits gets all there are of up to 14 bits, with nothing behind.
func TestGetOfAllBits(t *testing.T) {
	for _, first := range []bool{false, true} {
		codes := signed(first)
		seen := map[answer]int{}
		for n := range 15 {
			for x := range 1 << n {
				s := strconv.FormatInt(int64(1<<n|x), 2)[1:]
				b, at := end(s)
				want := plain(s, first, codes)
				got(t, b, at, first, want)
				seen[want]++
			}
		}
		want := 126 + 2
		if !first {
			want++
		}
		if len(seen) != want {
			t.Error("so many answers came:", len(seen))
		}
	}
}

// TestGetByChance gets at every place of bytes of chance, in which noughts are many.
func TestGetByChance(t *testing.T) {
	c := chance(3)
	codes := map[bool]map[string]api.Pair{false: signed(false), true: signed(true)}
	seen := map[api.Errno]int{}
	for range 300 {
		s := ""
		for range c.below(8) {
			s += strings.Repeat("0", c.below(12)) + c.some(c.below(8))
			if c.below(3) == 0 {
				s += escape(c.below(64), c.below(3)*128%256)
			}
		}
		b := pack(s, "0")
		s = spell(b)
		for at := range len(s) + 3 {
			for _, first := range []bool{false, true} {
				want := plain(s[min(at, len(s)):], first, codes[first])
				got(t, b, at, first, want)
				seen[want.err]++
			}
		}
	}
	if len(seen) != 4 {
		t.Error("some error never came", seen)
	}
}

// TestOrderOfErrors asks for what more than one error could be told of.
func TestOrderOfErrors(t *testing.T) {
	for _, first := range []bool{false, true} {
		got(t, []byte{4, 0, 0}, -1, first, fault(api.ErrRange))
		got(t, []byte{0, 0}, -1, first, fault(api.ErrRange))
		got(t, nil, -1, first, fault(api.ErrRange))
		got(t, []byte{4, 0}, 0, first, fault(api.ErrMore))
		got(t, []byte{4, 8}, 0, first, fault(api.ErrMore))
		b, at := end(escape(0, 0)[:19])
		got(t, b, at, first, fault(api.ErrMore))
		b, at = end(escape(63, 128)[:19])
		got(t, b, at, first, fault(api.ErrMore))
		b, at = end(escape(0, 0))
		got(t, b, at, first, fault(api.ErrLevel))
		b, at = end(escape(63, 128) + "1")
		got(t, b, at, first, fault(api.ErrLevel))
	}
}

// TestGetIsATreesGet makes the tree of what Put, Escape and End tell: it may be made, and gets what Get gets.
func TestGetIsATreesGet(t *testing.T) {
	for _, first := range []bool{false, true} {
		codes, numbers, pairs := []string{"000001"}, []int{-1}, []api.Pair{}
		if !first {
			codes, numbers = append(codes, coeff.End()), append(numbers, -2)
		}
		for run := range 64 {
			for level := -127; level <= 127; level++ {
				p := api.Pair{Run: run, Level: level}
				if code, e := coeff.Put(p, first); e == api.OK && coeff.Short(p) {
					codes, numbers, pairs = append(codes, code), append(numbers, len(pairs)), append(pairs, p)
				}
			}
		}
		tree, e := prefix.Make(codes, numbers)
		if e != api.OK || len(pairs) != 126 {
			t.Fatal("the codes are no tree", e, len(pairs))
		}
		for x := range 1 << 15 {
			b := []byte{byte(x >> 7), byte(x << 1)}
			for _, at := range []int{-1, 0, 1, 15} {
				switch n, many, err := tree.Get(b, at); {
				case err != api.OK:
					got(t, b, at, first, fault(err))
				case n == -1:
					got(t, b, at, first, fault(api.ErrMore))
				case n == -2:
					got(t, b, at, first, theEnd)
				default:
					got(t, b, at, first, pairOf(pairs[n].Run, pairs[n].Level, many))
				}
			}
		}
	}
}

// TestNoCodeBeginsAnother holds all codes against each other: those put, all escapes, the end; none begins with nine noughts.
func TestNoCodeBeginsAnother(t *testing.T) {
	for _, first := range []bool{false, true} {
		var codes []string
		if !first {
			codes = append(codes, coeff.End())
		}
		for run := range 64 {
			codes = append(codes, escape(run, 0), escape(run, 128))
			for level := -127; level <= 127; level++ {
				p := api.Pair{Run: run, Level: level}
				code, e := coeff.Put(p, first)
				long, f := coeff.Escape(p)
				if e != f || (e == api.OK) != (level != 0) {
					t.Fatal(p, e, f)
				}
				if level != 0 {
					codes = append(codes, long)
				}
				if coeff.Short(p) {
					codes = append(codes, code)
				}
				if level != 0 && (coeff.Short(p) && len(code) > 14 || !coeff.Short(p) && (len(code) != 20 || code != long)) {
					t.Error(p, code, long)
				}
			}
		}
		slices.Sort(codes)
		for i, code := range codes {
			if i > 0 && strings.HasPrefix(code, codes[i-1]) {
				t.Fatal(codes[i-1], "begins", code)
			}
			if strings.HasPrefix(code, "000000000") {
				t.Fatal(code, "begins with nine noughts")
			}
		}
		want := 126 + 64*256
		if !first {
			want++
		}
		if len(codes) != want {
			t.Error("so many codes:", len(codes))
		}
	}
}

// TestPutIsGot puts and escapes each pair, and gets it whatever stands ahead and behind.
func TestPutIsGot(t *testing.T) {
	c := chance(7)
	for run := range 64 {
		for level := -127; level <= 127; level++ {
			if level == 0 {
				continue
			}
			p := api.Pair{Run: run, Level: level}
			for _, first := range []bool{false, true} {
				code, e := coeff.Put(p, first)
				long, f := coeff.Escape(p)
				if e != api.OK || f != api.OK {
					t.Fatal(p, e, f)
				}
				for _, s := range []string{code, long} {
					at := c.below(20)
					got(t, pack(c.some(at)+s+c.some(c.below(30)), c.some(1)), at, first, pairOf(run, level, len(s)))
				}
			}
		}
	}
}

// TestCutOff cuts bits off: what was a code becomes ErrMore, or stays.
func TestCutOff(t *testing.T) {
	c := chance(9)
	for range 3000 {
		p, first := c.pair(), c.below(2) == 0
		code, _ := coeff.Put(p, first)
		if c.below(4) == 0 {
			code, _ = coeff.Escape(p)
		}
		behind := code + c.some(12)
		for n := range len(behind) + 1 {
			b, at := end(behind[:n])
			if n < len(code) {
				got(t, b, at, first, fault(api.ErrMore))
			} else {
				got(t, b, at, first, pairOf(p.Run, p.Level, len(code)))
			}
		}
	}
}

// TestManyBlocks writes pairs and ends of many blocks one behind the other with a pen, and reads them as they were.
func TestManyBlocks(t *testing.T) {
	c := chance(11)
	for range 100 {
		p := bits.NewPen()
		p.Put(0, c.below(8))
		at := p.Len()
		var blocks [][]api.Pair
		var intra []bool
		write := func(code string, e api.Errno) {
			if e != api.OK || p.Code(code) != api.OK {
				t.Fatal("wrote", code, e)
			}
		}
		for range c.below(9) {
			var pairs []api.Pair
			inside := c.below(2) == 0
			for i := range 1 + c.below(20) {
				pairs = append(pairs, c.pair())
				if c.below(5) == 0 {
					write(coeff.Escape(pairs[i]))
				} else {
					write(coeff.Put(pairs[i], i == 0 && !inside))
				}
			}
			write(coeff.End(), api.OK)
			blocks, intra = append(blocks, pairs), append(intra, inside)
		}
		for i, pairs := range blocks {
			for j, pair := range pairs {
				q, end, many, e := coeff.Get(p.Bytes(), at, j == 0 && !intra[i])
				if q != pair || end || e != api.OK {
					t.Fatal("read", at, q, end, many, e, "not", pair)
				}
				at += many
			}
			got(t, p.Bytes(), at, false, theEnd)
			at += 2
		}
		if at != p.Len() {
			t.Fatal("read", at, "of", p.Len())
		}
	}
}

// TestGetLeavesBytes looks whether Get looks behind the end, or changes bytes.
func TestGetLeavesBytes(t *testing.T) {
	all := []byte{4, 3, 16, 192}
	got(t, all[:0], 0, false, fault(api.ErrMore))
	got(t, all[:1], 0, false, fault(api.ErrMore))
	got(t, all[:1], 8, false, fault(api.ErrMore))
	got(t, all[:2], 0, false, fault(api.ErrMore))
	got(t, all[:3], 0, false, pairOf(0, 49, 20))
	got(t, all[:3], 20, false, fault(api.ErrMore))
	got(t, all[:3], 24, true, fault(api.ErrMore))
	got(t, all, 24, true, pairOf(0, -1, 2))
	if !bytes.Equal(all, []byte{4, 3, 16, 192}) {
		t.Error("bytes were changed", all)
	}
}

// TestAnswersStay asks again and again, also for wrong things: no call tells on another one.
func TestAnswersStay(t *testing.T) {
	c := chance(13)
	for range 500 {
		first := c.below(2) == 0
		for code, p := range signed(first) {
			put(t, p.Run, p.Level, first, code, api.OK)
			got(t, pack(code, "1"), 0, first, pairOf(p.Run, p.Level, len(code)))
			if c.below(10) == 0 {
				break
			}
		}
		put(t, c.below(64), 0, first, "", api.ErrRange)
		escaped(t, 64+c.below(64), 1, "", api.ErrRange)
		got(t, pack(escape(c.below(64), 128*c.below(2)), "0"), 0, first, fault(api.ErrLevel))
		got(t, []byte{128}, -1, first, fault(api.ErrRange))
		got(t, []byte{128}, 0, false, theEnd)
		got(t, []byte{0, 0, 0}, 0, first, fault(api.ErrCode))
	}
}
