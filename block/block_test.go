package block_test

import (
	"bytes"
	"math"
	"slices"
	"strconv"
	"strings"
	"testing"

	"praxinoscope/api"
	"praxinoscope/bits"
	"praxinoscope/block"
	"praxinoscope/coeff"
	"praxinoscope/cosine"
	"praxinoscope/quant"
	"praxinoscope/scan"
)

// chance is a row of numbers that look like chance and are always the same.
type chance uint64

func (c *chance) below(n int) int {
	*c = *c*6364136223846793005 + 1442695040888963407
	return int(uint64(*c) >> 33 % uint64(n))
}

// yes tells one of two.
func (c *chance) yes() bool {
	return c.below(2) == 0
}

// of tells one of a list.
func (c *chance) of(l []int) int {
	return l[c.below(len(l))]
}

// some tells so many bits of chance.
func (c *chance) some(n int) string {
	var s strings.Builder
	for range n {
		s.WriteString(strconv.Itoa(c.below(2)))
	}
	return s.String()
}

// code tells the code of a first coefficient.
func (c *chance) code() int {
	n := 1 + c.below(254)
	if n == 128 {
		n = 255
	}
	return n
}

// level tells a level, of which many have short codes.
func (c *chance) level() int {
	n := 1 + c.below(127)
	switch c.below(3) {
	case 0:
		n = 1 + c.below(3)
	case 1:
		n = c.of([]int{1, 1, 2, 15, 16, 126, 127})
	}
	if c.yes() {
		return -n
	}
	return n
}

// block tells a block that may be, with at most so many pairs.
func (c *chance) block(intra bool, most int) api.Block {
	x := api.Block{}
	next := 0
	if intra {
		x.DC = c.code()
		next = 1
	}
	// Small runs leave room for many pairs.
	wide := c.of([]int{1, 2, 4, 64})
	for len(x.L) < most && next < 64 {
		run := c.below(min(wide, 64-next))
		x.L = append(x.L, api.Pair{Run: run, Level: c.level()})
		next += run + 1
	}
	return x
}

// any tells a block that may be, with few pairs or many.
func (c *chance) any(intra bool) api.Block {
	if intra {
		return c.block(intra, c.of([]int{0, 1, 2, 5, 20, 64}))
	}
	return c.block(intra, c.of([]int{1, 2, 5, 20, 64}))
}

// of tells a block of pairs: runs and levels by turns.
func of(dc int, l ...int) api.Block {
	x := api.Block{DC: dc}
	for i := 0; i < len(l); i += 2 {
		x.L = append(x.L, api.Pair{Run: l[i], Level: l[i+1]})
	}
	return x
}

// ones tells a block of so many pairs without noughts between them.
func ones(dc, many int) api.Block {
	return api.Block{DC: dc, L: slices.Repeat([]api.Pair{{Run: 0, Level: 1}}, many)}
}

// with tells a block with one more pair.
func with(x api.Block, run, level int) api.Block {
	return api.Block{DC: x.DC, L: append(slices.Clone(x.L), api.Pair{Run: run, Level: level})}
}

// equal tells whether two blocks are the same.
func equal(x, y api.Block) bool {
	return x.DC == y.DC && slices.Equal(x.L, y.L)
}

// clone tells a block that shares nothing with x.
func clone(x api.Block) api.Block {
	return api.Block{DC: x.DC, L: slices.Clone(x.L)}
}

// far tells numbers that lie far from any code, level, run and quantiser; the last eight, 16 or 32 bits of some would be a small one.
func far() []int {
	return []int{1 << 16, 1<<16 + 1, 1<<16 + 5, -1 << 16, -1<<16 + 1, 1 << 31, 1<<31 - 1, 1<<32 + 1, 1<<32 + 31, -1<<32 + 1, 1 << 40, -1 << 40, math.MaxInt, math.MaxInt - 1, math.MaxInt - 62, math.MaxInt - 63, math.MaxInt - 64, math.MaxInt / 2, math.MinInt, math.MinInt + 1, math.MinInt / 2}
}

// noCodes tells what is no code of a first coefficient.
func noCodes() []int {
	return append([]int{0, 128, 256, 257, 384, 511, 512, 1000, -1, -2, -5, -127, -128, -129, -255, -256, -1000}, far()...)
}

// noLevels tells what is no level of a pair.
func noLevels() []int {
	return append([]int{0, 128, -128, 129, -129, 255, 256, 257, -255, -256, -257, 1000, -1000}, far()...)
}

// noRuns tells what no pair may have ahead of its level, wherever it stands.
func noRuns() []int {
	return append([]int{-1, -2, -63, -64, -65, 64, 65, 127, 128, 255, 256, 257, -255, 1000, -1000}, far()...)
}

// noQuants tells what is no quantiser.
func noQuants() []int {
	return append([]int{0, 32, -1, -2, -31, -32, 33, 34, 63, 64, 65, 255, 256, 257, -255, 1000}, far()...)
}

// spell spells a number in eight bits.
func spell(n int) string {
	return strconv.FormatInt(int64(256+n), 2)[1:]
}

// escape tells the escape of a run and eight bits.
func escape(run, eight int) string {
	return "000001" + strconv.FormatInt(int64(64+run), 2)[1:] + spell(eight)
}

// pack tells the bytes of a text of bits, with the bits of fill behind it.
func pack(s, fill string) []byte {
	for len(s)%8 != 0 {
		s += fill
	}
	var b []byte
	for i := 0; i < len(s); i += 8 {
		n, err := strconv.ParseUint(s[i:i+8], 2, 8)
		if err != nil {
			panic(err)
		}
		b = append(b, byte(n))
	}
	return b
}

// end tells bytes at whose end a text of bits stands, and the place of its first bit.
func end(s string) ([]byte, int) {
	lacks := (8 - len(s)%8) % 8
	return pack(strings.Repeat("1", lacks)+s, ""), lacks
}

// plainCheck tells what Check must answer, by the words of the promise.
func plainCheck(x api.Block, intra bool) api.Errno {
	place := -1
	if intra {
		if x.DC < 1 || x.DC > 255 || x.DC == 128 {
			return api.ErrLevel
		}
		place = 0
	} else if x.DC != 0 || len(x.L) == 0 {
		return api.ErrArg
	}
	for _, p := range x.L {
		if p.Level == 0 || p.Level < -127 || p.Level > 127 {
			return api.ErrLevel
		}
		if p.Run < 0 || p.Run > 63 {
			return api.ErrRun
		}
		place += p.Run + 1
		if place > 63 {
			return api.ErrRun
		}
	}
	return api.OK
}

// plainPut tells the bits of a block that may be.
func plainPut(x api.Block, intra bool) string {
	s := ""
	if intra {
		s = spell(x.DC)
	}
	for i, p := range x.L {
		code, e := coeff.Put(p, !intra && i == 0)
		if e != api.OK {
			panic(e)
		}
		s += code
	}
	return s + "10"
}

// plainGet tells what Get must answer, part by part.
func plainGet(b []byte, at int, intra bool) (api.Block, int, api.Errno) {
	if at < 0 {
		return api.Block{}, 0, api.ErrRange
	}
	x, here, free := api.Block{}, at, 64
	if intra {
		if at > len(b)*8-8 {
			return api.Block{}, 0, api.ErrMore
		}
		for i := range 8 {
			x.DC = x.DC*2 + int(b[(at+i)/8]>>(7-(at+i)%8)&1)
		}
		if x.DC == 0 || x.DC == 128 {
			return api.Block{}, 0, api.ErrLevel
		}
		here, free = here+8, 63
	}
	for {
		p, end, many, e := coeff.Get(b, here, !intra && len(x.L) == 0)
		if e != api.OK {
			return api.Block{}, 0, e
		}
		here += many
		if end {
			return x, here - at, api.OK
		}
		free -= p.Run + 1
		if free < 0 {
			return api.Block{}, 0, api.ErrRun
		}
		x.L = append(x.L, p)
	}
}

// plainLevels tells the levels of a block that may be, by the order of places.
func plainLevels(x api.Block, intra bool) []int {
	l := make([]int, 64)
	next := 0
	if intra {
		next = 1
	}
	for _, p := range x.L {
		next += p.Run
		place, e := scan.Place(next)
		if e != api.OK {
			panic(e)
		}
		l[place] = p.Level
		next++
	}
	return l
}

// plainResidue tells the samples of a block that may be, value by value.
func plainResidue(x api.Block, by int, intra bool) []int {
	var values []int
	for _, level := range plainLevels(x, intra) {
		n, e := quant.Value(level, by)
		if e != api.OK {
			panic(e)
		}
		values = append(values, n)
	}
	if intra {
		values[0] = 8 * x.DC
		if x.DC == 255 {
			values[0] = 1024
		}
	}
	l, e := cosine.Inverse(values)
	if e != api.OK {
		panic(e)
	}
	return l
}

// checked looks whether Check answers just this.
func checked(t *testing.T, x api.Block, intra bool, want api.Errno) {
	t.Helper()
	was := clone(x)
	if e := block.Check(x, intra); e != want || !equal(x, was) {
		t.Fatalf("Check(%v, %t): %d, not %d; it is %v", was, intra, e, want, x)
	}
}

// got looks whether Get answers just this.
func got(t *testing.T, b []byte, at int, intra bool, want api.Block, many int, err api.Errno) {
	t.Helper()
	was := slices.Clone(b)
	x, n, e := block.Get(b, at, intra)
	if !equal(x, want) || n != many || e != err || !bytes.Equal(b, was) {
		t.Fatalf("Get(%v, %d, %t): %v, %d, %d, not %v, %d, %d; they are %v", was, at, intra, x, n, e, want, many, err, b)
	}
}

// fault looks whether Get answers just this error.
func fault(t *testing.T, b []byte, at int, intra bool, err api.Errno) {
	t.Helper()
	got(t, b, at, intra, api.Block{}, 0, err)
}

// put looks whether Put answers just this.
func put(t *testing.T, x api.Block, intra bool, want string, err api.Errno) {
	t.Helper()
	was := clone(x)
	if s, e := block.Put(x, intra); s != want || e != err || !equal(x, was) {
		t.Fatalf("Put(%v, %t): %q, %d, not %q, %d; it is %v", was, intra, s, e, want, err, x)
	}
}

// spread looks whether Levels answers just this.
func spread(t *testing.T, x api.Block, intra bool, want []int, err api.Errno) {
	t.Helper()
	was := clone(x)
	if l, e := block.Levels(x, intra); !slices.Equal(l, want) || e != err || !equal(x, was) {
		t.Fatalf("Levels(%v, %t): %v, %d, not %v, %d; it is %v", was, intra, l, e, want, err, x)
	}
}

// sampled looks whether Residue answers just this.
func sampled(t *testing.T, x api.Block, by int, intra bool, want []int, err api.Errno) {
	t.Helper()
	was := clone(x)
	if l, e := block.Residue(x, by, intra); !slices.Equal(l, want) || e != err || !equal(x, was) {
		t.Fatalf("Residue(%v, %d, %t): %v, %d, not %v, %d; it is %v", was, by, intra, l, e, want, err, x)
	}
}

// refused looks whether all that are handed the block answer just this error.
func refused(t *testing.T, x api.Block, intra bool, err api.Errno) {
	t.Helper()
	checked(t, x, intra, err)
	put(t, x, intra, "", err)
	spread(t, x, intra, nil, err)
	for _, by := range []int{1, 31, 0, 32, math.MinInt} {
		sampled(t, x, by, intra, nil, err)
	}
}

// kept looks whether a block is checked, put and got as it was, and its levels and samples are those of the chapters below.
func kept(t *testing.T, c *chance, x api.Block, intra bool) {
	t.Helper()
	checked(t, x, intra, api.OK)
	s := plainPut(x, intra)
	put(t, x, intra, s, api.OK)
	at := c.below(20)
	got(t, pack(c.some(at)+s+c.some(c.below(40)), c.some(1)), at, intra, x, len(s), api.OK)
	spread(t, x, intra, plainLevels(x, intra), api.OK)
	by := 1 + c.below(31)
	sampled(t, x, by, intra, plainResidue(x, by, intra), api.OK)
}

func TestExamples(t *testing.T) {
	put(t, of(5), true, "0000010110", api.OK)
	put(t, of(0, 0, 1, 0, 1), false, "1011010", api.OK)
	put(t, of(0), false, "", api.ErrArg)
	put(t, of(128), true, "", api.ErrLevel)
	got(t, []byte{5, 128}, 0, true, of(5), 10, api.OK)
	got(t, []byte{180}, 0, false, of(0, 0, 1, 0, 1), 7, api.OK)
	fault(t, []byte{128, 0}, 0, true, api.ErrLevel)
	fault(t, []byte{5}, 0, true, api.ErrMore)
	checked(t, of(1, 62, 1), true, api.OK)
	checked(t, of(1, 63, 1), true, api.ErrRun)
	checked(t, of(0, 63, 1), false, api.OK)
	checked(t, of(0, 63, 1, 0, 1), false, api.ErrRun)
	sampled(t, of(5), 7, true, slices.Repeat([]int{5}, 64), api.OK)
	sampled(t, of(255), 1, true, slices.Repeat([]int{128}, 64), api.OK)
	sampled(t, of(5), 0, true, nil, api.ErrRange)
	want := make([]int, 64)
	want[1] = -2
	spread(t, of(0, 1, -2), false, want, api.OK)
}

// TestFlat has each code of an intra block without pairs, by each quantiser: all samples are the code, of 255 128.
func TestFlat(t *testing.T) {
	c := chance(1)
	for dc := 1; dc <= 255; dc++ {
		if dc == 128 {
			continue
		}
		kept(t, &c, of(dc), true)
		put(t, of(dc), true, spell(dc)+"10", api.OK)
		spread(t, of(dc), true, make([]int, 64), api.OK)
		flat := dc
		if dc == 255 {
			flat = 128
		}
		for by := 1; by <= 31; by++ {
			sampled(t, of(dc), by, true, slices.Repeat([]int{flat}, 64), api.OK)
		}
		refused(t, of(dc), false, api.ErrArg)
		refused(t, of(dc, 0, 1), false, api.ErrArg)
	}
}

// TestCodesRefused has what is no code of a first coefficient, with pairs and without, also with wrong ones, which come later.
func TestCodesRefused(t *testing.T) {
	for _, dc := range noCodes() {
		for _, x := range []api.Block{of(dc), of(dc, 0, 1), of(dc, 0, 0), of(dc, -1, 1), of(dc, 64, 1), of(dc, 63, 1), ones(dc, 65)} {
			refused(t, x, true, api.ErrLevel)
			if dc != 0 {
				refused(t, x, false, api.ErrArg)
			}
		}
	}
	refused(t, api.Block{}, true, api.ErrLevel)
	refused(t, api.Block{}, false, api.ErrArg)
	refused(t, api.Block{L: []api.Pair{}}, false, api.ErrArg)
}

// TestLevelsOfPairs has all levels, and what is none, in the first pair and in later ones.
func TestLevelsOfPairs(t *testing.T) {
	c := chance(2)
	for level := -127; level <= 127; level++ {
		if level == 0 {
			continue
		}
		for _, run := range []int{0, 1, 5, 62} {
			kept(t, &c, of(7, run, level), true)
			kept(t, &c, of(0, run, level), false)
		}
		kept(t, &c, of(7, 0, 1, 3, level, 0, -1), true)
		kept(t, &c, of(0, 0, 1, 3, level, 0, -1), false)
	}
	for _, level := range noLevels() {
		// A pair that has neither a level nor a place has no level, ahead of all else.
		for _, run := range []int{0, 1, 63, 64, -1, math.MaxInt, math.MinInt} {
			refused(t, of(1, run, level), true, api.ErrLevel)
			refused(t, of(0, run, level), false, api.ErrLevel)
			refused(t, of(1, 2, 127, 3, -127, run, level), true, api.ErrLevel)
			refused(t, of(0, 2, 127, 3, -127, run, level), false, api.ErrLevel)
			refused(t, with(ones(1, 63), run, level), true, api.ErrLevel)
			refused(t, with(ones(0, 64), run, level), false, api.ErrLevel)
		}
	}
}

// TestRunsOfPairs has all runs, and what is none, in the first pair and in later ones: up to the 64th place, and one place beyond it.
func TestRunsOfPairs(t *testing.T) {
	c := chance(3)
	for ahead := range 64 {
		for run := range 64 {
			x := with(ones(0, ahead), run, -1)
			if ahead+run <= 63 {
				kept(t, &c, x, false)
			} else {
				refused(t, x, false, api.ErrRun)
			}
			x.DC = 129
			if 1+ahead+run <= 63 {
				kept(t, &c, x, true)
			} else {
				refused(t, x, true, api.ErrRun)
			}
		}
	}
	for _, run := range noRuns() {
		for _, level := range []int{1, -1, 127, -127} {
			refused(t, of(127, run, level), true, api.ErrRun)
			refused(t, of(0, run, level), false, api.ErrRun)
			refused(t, of(127, 2, 127, 3, -127, run, level), true, api.ErrRun)
			refused(t, of(0, 2, 127, 3, -127, run, level), false, api.ErrRun)
			refused(t, with(ones(127, 63), run, level), true, api.ErrRun)
			refused(t, with(ones(0, 64), run, level), false, api.ErrRun)
		}
	}
}

// TestFullBlocks has as many pairs as there are places, and one more, and very many.
func TestFullBlocks(t *testing.T) {
	c := chance(4)
	kept(t, &c, ones(1, 62), true)
	kept(t, &c, ones(255, 63), true)
	kept(t, &c, ones(0, 63), false)
	kept(t, &c, ones(0, 64), false)
	for _, many := range []int{65, 66, 127, 128, 1000, 100000} {
		refused(t, ones(1, many-1), true, api.ErrRun)
		refused(t, ones(1, many), true, api.ErrRun)
		refused(t, ones(0, many), false, api.ErrRun)
	}
}

// TestOrderOfErrors has two errors at once: the one of the pair ahead is told, of one pair that of the level.
func TestOrderOfErrors(t *testing.T) {
	for _, x := range []struct {
		l   []int
		err api.Errno
	}{
		{[]int{-1, 0}, api.ErrLevel},
		{[]int{64, 128}, api.ErrLevel},
		{[]int{-1, 1, 0, 0}, api.ErrRun},
		{[]int{0, 0, -1, 1}, api.ErrLevel},
		{[]int{64, 1, 0, 128}, api.ErrRun},
		{[]int{0, -128, 64, 1}, api.ErrLevel},
		{[]int{62, 1, 5, 1, 0, 0}, api.ErrRun},
		{[]int{62, 1, 5, 0, 0, 1}, api.ErrLevel},
		{[]int{62, 1, 5, 1, -3, 1}, api.ErrRun},
		{[]int{3, 1, math.MaxInt, 1, 0, 0}, api.ErrRun},
		{[]int{3, 1, math.MinInt, 1, 0, 0}, api.ErrRun},
		{[]int{3, 1, 0, math.MinInt, 70, 1}, api.ErrLevel},
	} {
		refused(t, of(3, x.l...), true, x.err)
		refused(t, of(0, x.l...), false, x.err)
		refused(t, of(0, x.l...), true, api.ErrLevel)
		refused(t, of(3, x.l...), false, api.ErrArg)
		refused(t, of(-3, x.l...), true, api.ErrLevel)
		refused(t, of(-3, x.l...), false, api.ErrArg)
	}
	refused(t, with(ones(0, 65), 0, 0), false, api.ErrRun)
	refused(t, with(ones(0, 64), 0, 0), false, api.ErrLevel)
	refused(t, with(ones(9, 64), 0, 0), true, api.ErrRun)
	refused(t, with(ones(9, 63), 0, 0), true, api.ErrLevel)
}

// TestCheckByChance has blocks of chance, some of which may not be, and holds all against the words of the promises.
func TestCheckByChance(t *testing.T) {
	c := chance(5)
	told := map[api.Errno]int{}
	for range 20000 {
		intra := c.yes()
		x := c.any(intra)
		for range c.below(3) {
			wrong := c.below(max(1, len(x.L)))
			switch c.below(4) {
			case 0:
				x.DC = c.of(append(noCodes(), 1, 5, 127, 129, 255))
			case 1:
				x.L = append(x.L, api.Pair{Run: c.below(64), Level: c.level()})
			case 2:
				if wrong < len(x.L) {
					x.L[wrong].Level = c.of(noLevels())
				}
			case 3:
				if wrong < len(x.L) {
					x.L[wrong].Run = c.of(append(noRuns(), 62, 63))
				}
			}
		}
		e := plainCheck(x, intra)
		told[e]++
		if e == api.OK {
			kept(t, &c, x, intra)
		} else {
			refused(t, x, intra, e)
		}
	}
	for _, e := range []api.Errno{api.OK, api.ErrArg, api.ErrLevel, api.ErrRun} {
		if told[e] < 100 {
			t.Error("so few times", e, told[e])
		}
	}
}

// TestPutIsGot puts blocks of chance, and gets them whatever stands ahead and behind, from each bit of a byte, and as the last bits of all.
func TestPutIsGot(t *testing.T) {
	c := chance(6)
	for range 1000 {
		intra := c.yes()
		x := c.any(intra)
		s := plainPut(x, intra)
		put(t, x, intra, s, api.OK)
		for at := range 17 {
			for _, ahead := range []string{strings.Repeat("0", at), strings.Repeat("1", at), c.some(at)} {
				got(t, pack(ahead+s+c.some(c.below(30)), c.some(1)), at, intra, x, len(s), api.OK)
				got(t, pack(ahead+s, "0"), at, intra, x, len(s), api.OK)
				got(t, pack(ahead+s, "1"), at, intra, x, len(s), api.OK)
			}
		}
		b, at := end(s)
		got(t, b, at, intra, x, len(s), api.OK)
	}
}

// TestGotIsPut gets blocks with escapes for what has short codes: they may be, and are put in no more bits.
func TestGotIsPut(t *testing.T) {
	c := chance(7)
	fewer := 0
	for range 3000 {
		intra := c.yes()
		x := c.any(intra)
		s := ""
		if intra {
			s = spell(x.DC)
		}
		for i, p := range x.L {
			code, e := coeff.Put(p, !intra && i == 0)
			if c.yes() {
				code, e = coeff.Escape(p)
			}
			if e != api.OK {
				t.Fatal(p, e)
			}
			s += code
		}
		s += "10"
		at := c.below(30)
		got(t, pack(c.some(at)+s+c.some(c.below(30)), c.some(1)), at, intra, x, len(s), api.OK)
		short, e := block.Put(x, intra)
		if e != api.OK || len(short) > len(s) {
			t.Fatal(x, short, e, s)
		}
		if len(short) < len(s) {
			fewer++
		}
	}
	if fewer < 1000 {
		t.Error("so few were put in fewer bits:", fewer)
	}
}

// TestCutOff cuts bits off: what was a block becomes ErrMore, or stays.
func TestCutOff(t *testing.T) {
	c := chance(8)
	for range 500 {
		intra := c.yes()
		x := c.any(intra)
		s := plainPut(x, intra)
		behind := s + c.some(9)
		for n := range len(behind) + 1 {
			b, at := end(behind[:n])
			if n < len(s) {
				fault(t, b, at, intra, api.ErrMore)
			} else {
				got(t, b, at, intra, x, len(s), api.OK)
			}
		}
	}
}

// TestGetOutside gets from places ahead of all bits, and at their end and behind it.
func TestGetOutside(t *testing.T) {
	for _, intra := range []bool{false, true} {
		for _, b := range [][]byte{nil, {}, {180}, {5, 128}, {0, 0}, {128, 128}} {
			for _, at := range []int{-1, -2, -8, -9, -1 << 31, -1 << 32, -1<<32 + 1, math.MinInt, math.MinInt + 1, math.MinInt + 8} {
				fault(t, b, at, intra, api.ErrRange)
			}
			for _, at := range []int{0, 1, 7, 8, 9, 64, 1 << 31, 1 << 32, 1<<32 + 1, math.MaxInt/8 + 1, math.MaxInt - 20, math.MaxInt - 8, math.MaxInt - 7, math.MaxInt - 1, math.MaxInt} {
				fault(t, b, 8*len(b)+min(at, math.MaxInt-8*len(b)), intra, api.ErrMore)
			}
		}
	}
	// At the last bit there are never eight, and of a pair only its beginning.
	fault(t, []byte{5, 5}, 15, true, api.ErrMore)
	fault(t, []byte{5, 5}, 9, true, api.ErrMore)
	fault(t, []byte{5, 5}, 8, true, api.ErrMore)
	fault(t, []byte{5, 5}, 15, false, api.ErrMore)
}

// TestCodesGot gets all eights of bits as codes of a first coefficient.
func TestCodesGot(t *testing.T) {
	c := chance(9)
	for dc := range 256 {
		for range 8 {
			at := c.below(20)
			b := pack(c.some(at)+spell(dc)+"10"+c.some(c.below(20)), c.some(1))
			if dc == 0 || dc == 128 {
				fault(t, b, at, true, api.ErrLevel)
			} else {
				got(t, b, at, true, of(dc), 10, api.OK)
			}
		}
		for n := range 8 {
			b, at := end(spell(dc)[:n])
			fault(t, b, at, true, api.ErrMore)
		}
		b, at := end(spell(dc))
		if dc == 0 || dc == 128 {
			fault(t, b, at, true, api.ErrLevel)
		} else {
			fault(t, b, at, true, api.ErrMore)
		}
	}
	// What is no code is told ahead of what is wrong behind it.
	for _, code := range []string{spell(0), spell(128)} {
		for _, behind := range []string{"", "0", "0000000000000000", escape(0, 0), escape(63, 1) + "10"} {
			b, at := end(code + behind)
			fault(t, b, at, true, api.ErrLevel)
		}
	}
}

// TestPairsRefused gets blocks with a pair that there is not: by the first pair, and by later ones.
func TestPairsRefused(t *testing.T) {
	c := chance(10)
	for range 300 {
		intra := c.yes()
		x := c.block(intra, c.below(20))
		s := strings.TrimSuffix(plainPut(x, intra), "10")
		for _, wrong := range []struct {
			bits string
			err  api.Errno
		}{
			{"000000000", api.ErrCode},
			{"000000000000000100", api.ErrCode},
			{"0000000001", api.ErrCode},
			{escape(c.below(64), 0), api.ErrLevel},
			{escape(c.below(64), 128), api.ErrLevel},
			{escape(63, 0), api.ErrLevel},
		} {
			b := pack(s+wrong.bits+c.some(c.below(30)), c.some(1))
			fault(t, b, 0, intra, wrong.err)
		}
	}
	// At first there is no end: 10 is a level of 1.
	got(t, pack("10"+"10", "0"), 0, false, of(0, 0, 1), 4, api.OK)
	fault(t, pack("10", "1")[:0], 0, false, api.ErrMore)
	b, at := end("10")
	fault(t, b, at, false, api.ErrMore)
	// At first 11 is a level of -1, later it begins one of a run of 0.
	got(t, pack("11"+"110"+"111"+"10", "0"), 0, false, of(0, 0, -1, 0, 1, 0, -1), 10, api.OK)
	got(t, pack(spell(1)+"110"+"111"+"10", "0"), 0, true, of(1, 0, 1, 0, -1), 16, api.OK)
}

// TestRunsGot gets levels at each place up to the 64th and beyond it, in short codes and in escapes, by the first pair and by a later one.
func TestRunsGot(t *testing.T) {
	c := chance(11)
	for ahead := range 65 {
		for run := range 64 {
			for _, intra := range []bool{false, true} {
				x := ones(0, ahead)
				places := 64
				if intra {
					x.DC, places = c.code(), 63
				}
				if ahead > places {
					continue
				}
				s := spell(x.DC)
				if !intra {
					s = ""
				}
				for i, p := range x.L {
					code, _ := coeff.Put(p, !intra && i == 0)
					s += code
				}
				p := api.Pair{Run: run, Level: c.level()}
				code, _ := coeff.Put(p, !intra && ahead == 0)
				if c.yes() {
					code, _ = coeff.Escape(p)
				}
				s += code
				at := c.below(20)
				b := pack(c.some(at)+s+"10", c.some(1))
				if ahead+run < places {
					got(t, b, at, intra, with(x, run, p.Level), len(s)+2, api.OK)
					continue
				}
				fault(t, b, at, intra, api.ErrRun)
				// The place is looked at when the pair is whole, and ahead of all that stands behind.
				whole, from := end(s)
				fault(t, whole, from, intra, api.ErrRun)
				fault(t, pack(s+"000000000000000", "0"), 0, intra, api.ErrRun)
				fault(t, pack(s+escape(0, 0), "0"), 0, intra, api.ErrRun)
				cut, from := end(s[:len(s)-1])
				fault(t, cut, from, intra, api.ErrMore)
				// A level that there is not is told ahead of its place.
				fault(t, pack(strings.TrimSuffix(s, code)+escape(run, 0), "0"), 0, intra, api.ErrLevel)
				fault(t, pack(strings.TrimSuffix(s, code)+escape(run, 128), "0"), 0, intra, api.ErrLevel)
			}
		}
	}
}

// TestFullBlocksGot gets what stands behind as many pairs as there are places.
func TestFullBlocksGot(t *testing.T) {
	for _, x := range []struct {
		full  api.Block
		intra bool
	}{{ones(77, 63), true}, {ones(0, 64), false}} {
		s := strings.TrimSuffix(plainPut(x.full, x.intra), "10")
		for _, behind := range []struct {
			bits string
			err  api.Errno
		}{
			{"", api.ErrMore},
			{"1", api.ErrMore},
			{"11", api.ErrMore},
			{"110", api.ErrRun},
			{"111", api.ErrRun},
			{"01000", api.ErrRun},
			{escape(0, 1), api.ErrRun},
			{escape(0, 1)[:19], api.ErrMore},
			{escape(0, 0), api.ErrLevel},
			{escape(0, 128), api.ErrLevel},
			{"000000000", api.ErrCode},
			{"00000000", api.ErrMore},
		} {
			b, at := end(s + behind.bits)
			fault(t, b, at, x.intra, behind.err)
		}
		got(t, pack(s+"10", "1"), 0, x.intra, x.full, len(s)+2, api.OK)
	}
	// A pair whose codes go on and on ends at the 64th place.
	fault(t, bytes.Repeat([]byte{255}, 100000), 0, false, api.ErrRun)
	fault(t, bytes.Repeat([]byte{255}, 100000), 0, true, api.ErrRun)
}

// TestGetByChance gets bits of chance, and blocks of which bits are turned, and holds all against the words of the promise.
func TestGetByChance(t *testing.T) {
	c := chance(12)
	told := map[api.Errno]int{}
	look := func(b []byte, at int, intra bool) {
		t.Helper()
		x, many, e := plainGet(b, at, intra)
		told[e]++
		got(t, b, at, intra, x, many, e)
		if e != api.OK {
			return
		}
		checked(t, x, intra, api.OK)
		s, f := block.Put(x, intra)
		if f != api.OK || len(s) > many {
			t.Fatal(x, s, f, many)
		}
		got(t, pack(s, c.some(1)), 0, intra, x, len(s), api.OK)
	}
	for range 20000 {
		b := pack(c.some(8*c.below(40)), "")
		look(b, c.below(8*len(b)+10)-1, c.yes())
	}
	for range 20000 {
		intra := c.yes()
		at := c.below(20)
		s := []byte(c.some(at) + plainPut(c.any(intra), intra) + c.some(c.below(60)))
		for range c.below(4) {
			s[c.below(len(s))] ^= 1
		}
		look(pack(string(s), c.some(1)), at, intra)
	}
	for _, e := range []api.Errno{api.OK, api.ErrRange, api.ErrMore, api.ErrCode, api.ErrLevel, api.ErrRun} {
		if told[e] < 50 {
			t.Error("so few times", e, told[e])
		}
	}
}

// TestSamplesOfPlaces holds a single level at each place against the chapters below, by each quantiser.
func TestSamplesOfPlaces(t *testing.T) {
	c := chance(13)
	for run := range 64 {
		for by := 1; by <= 31; by++ {
			x := of(0, run, c.level())
			spread(t, x, false, plainLevels(x, false), api.OK)
			sampled(t, x, by, false, plainResidue(x, by, false), api.OK)
			if run == 63 {
				continue
			}
			x.DC = c.code()
			spread(t, x, true, plainLevels(x, true), api.OK)
			sampled(t, x, by, true, plainResidue(x, by, true), api.OK)
		}
	}
	// A level at the first place alone is flat: 12 is worth 99 by the quantiser 4, and each sample an eighth of it, rounded.
	sampled(t, of(0, 0, 12), 4, false, slices.Repeat([]int{12}, 64), api.OK)
	sampled(t, of(0, 0, -127), 31, false, slices.Repeat([]int{-256}, 64), api.OK)
	sampled(t, of(0, 0, 127), 31, false, slices.Repeat([]int{256}, 64), api.OK)
}

// TestSamplesByChance holds the samples of blocks of chance against the chapters below.
func TestSamplesByChance(t *testing.T) {
	c := chance(14)
	for range 3000 {
		intra := c.yes()
		x := c.any(intra)
		by := c.of([]int{1, 1, 2, 3, 8, 30, 31, 1 + c.below(31)})
		spread(t, x, intra, plainLevels(x, intra), api.OK)
		sampled(t, x, by, intra, plainResidue(x, by, intra), api.OK)
	}
}

// TestQuantsRefused has what is no quantiser, with blocks that may be; with others it is not looked at.
func TestQuantsRefused(t *testing.T) {
	c := chance(15)
	for _, by := range noQuants() {
		for range 20 {
			intra := c.yes()
			sampled(t, c.any(intra), by, intra, nil, api.ErrRange)
		}
		sampled(t, of(0), by, true, nil, api.ErrLevel)
		sampled(t, of(128), by, true, nil, api.ErrLevel)
		sampled(t, of(0), by, false, nil, api.ErrArg)
		sampled(t, of(1, 0, 1), by, false, nil, api.ErrArg)
		sampled(t, of(0, 0, 0), by, false, nil, api.ErrLevel)
		sampled(t, of(0, 64, 1), by, false, nil, api.ErrRun)
		sampled(t, of(1, 63, 1), by, true, nil, api.ErrRun)
	}
}

// TestManyBlocks writes many blocks one behind the other with a pen, and reads them as they were.
func TestManyBlocks(t *testing.T) {
	c := chance(16)
	for range 200 {
		p := bits.NewPen()
		p.Put(0, c.below(8))
		at := p.Len()
		var blocks []api.Block
		var intras []bool
		for range c.below(20) {
			intra := c.yes()
			x := c.any(intra)
			s, e := block.Put(x, intra)
			if e != api.OK || p.Code(s) != api.OK {
				t.Fatal("wrote", x, s, e)
			}
			blocks, intras = append(blocks, x), append(intras, intra)
		}
		for i, x := range blocks {
			y, many, e := block.Get(p.Bytes(), at, intras[i])
			if !equal(x, y) || e != api.OK {
				t.Fatal("read", at, y, many, e, "not", x)
			}
			at += many
		}
		if at != p.Len() {
			t.Fatal("read", at, "of", p.Len())
		}
	}
}

// TestSpareRoomIsNotRead hands in bytes and pairs with more of them in the spare room behind.
func TestSpareRoomIsNotRead(t *testing.T) {
	all := []byte{5, 128, 180}
	fault(t, all[:0], 0, true, api.ErrMore)
	fault(t, all[:1], 0, true, api.ErrMore)
	got(t, all[:2], 0, true, of(5), 10, api.OK)
	fault(t, all[:2], 16, false, api.ErrMore)
	got(t, all, 16, false, of(0, 0, 1, 0, 1), 7, api.OK)
	if !bytes.Equal(all, []byte{5, 128, 180}) {
		t.Error("bytes were changed", all)
	}
	l := []api.Pair{{Run: 1, Level: 2}, {Run: 0, Level: 0}, {Run: 64, Level: 1}}
	refused(t, api.Block{L: l[:0]}, false, api.ErrArg)
	put(t, api.Block{DC: 9, L: l[:0]}, true, spell(9)+"10", api.OK)
	put(t, api.Block{L: l[:1]}, false, "0001100"+"10", api.OK)
	spread(t, api.Block{L: l[:1]}, false, plainLevels(of(0, 1, 2), false), api.OK)
	sampled(t, api.Block{L: l[:1]}, 5, false, plainResidue(of(0, 1, 2), 5, false), api.OK)
	refused(t, api.Block{L: l}, false, api.ErrLevel)
	if !slices.Equal(l, []api.Pair{{Run: 1, Level: 2}, {Run: 0, Level: 0}, {Run: 64, Level: 1}}) {
		t.Error("pairs were changed", l)
	}
}

// TestAnswersAreNew writes over what was answered, its spare room too, and over what was handed in: neither tells on a later call, nor on an answer.
func TestAnswersAreNew(t *testing.T) {
	c := chance(17)
	for range 300 {
		intra := c.yes()
		x := c.any(intra)
		b := pack(plainPut(x, intra), "0")
		by := 1 + c.below(31)
		for range 3 {
			y, _, _ := block.Get(b, 0, intra)
			z, _, _ := block.Get(b, 0, intra)
			l, _ := block.Levels(x, intra)
			m, _ := block.Levels(x, intra)
			r, _ := block.Residue(x, by, intra)
			q, _ := block.Residue(x, by, intra)
			for i, rest := range y.L[len(y.L):cap(y.L)] {
				if rest != (api.Pair{}) {
					t.Fatal("spare room", i, rest)
				}
			}
			y.L = y.L[:cap(y.L)]
			for i := range y.L {
				y.L[i] = api.Pair{Run: -9, Level: 999}
			}
			l, r = l[:cap(l)], r[:cap(r)]
			for i := range l {
				l[i] = 999
			}
			for i := range r {
				r[i] = 999
			}
			if !equal(z, x) || !slices.Equal(m, plainLevels(x, intra)) || !slices.Equal(q, plainResidue(x, by, intra)) {
				t.Fatal("answers share", x, z, m, q)
			}
		}
		y, many, e := block.Get(b, 0, intra)
		was := clone(x)
		m, _ := block.Levels(x, intra)
		q, _ := block.Residue(x, by, intra)
		s, _ := block.Put(x, intra)
		for i := range b {
			b[i] = 170
		}
		for i := range x.L {
			x.L[i] = api.Pair{Run: -9, Level: 999}
		}
		if !equal(y, was) || many != len(s) || e != api.OK || s != plainPut(was, intra) || !slices.Equal(m, plainLevels(was, intra)) || !slices.Equal(q, plainResidue(was, by, intra)) {
			t.Fatal("answers share what was handed in", was, y, many, e, s, m, q)
		}
	}
}

// TestAnswersStay asks again and again, also for wrong things: no call tells on another one.
func TestAnswersStay(t *testing.T) {
	c := chance(18)
	for range 1000 {
		intra := c.yes()
		kept(t, &c, c.any(intra), intra)
		refused(t, of(c.of(noCodes()), 0, 1), true, api.ErrLevel)
		refused(t, of(0, 0, c.of(noLevels())), false, api.ErrLevel)
		refused(t, of(0, c.of(noRuns()), 1), false, api.ErrRun)
		fault(t, []byte{5, 128}, -1, c.yes(), api.ErrRange)
		fault(t, []byte{0, 0, 0}, 0, false, api.ErrCode)
		fault(t, []byte{0, 0, 0}, 0, true, api.ErrLevel)
		got(t, []byte{5, 128}, 0, true, of(5), 10, api.OK)
		got(t, []byte{180}, 0, false, of(0, 0, 1, 0, 1), 7, api.OK)
	}
}
