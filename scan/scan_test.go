package scan_test

import (
	"math"
	"slices"
	"testing"

	"praxinoscope/api"
	"praxinoscope/scan"
)

// order is the document's list of places.
var order = []int{
	0, 1, 8, 16, 9, 2, 3, 10, 17, 24, 32, 25, 18, 11, 4, 5,
	12, 19, 26, 33, 40, 48, 41, 34, 27, 20, 13, 6, 7, 14, 21, 28,
	35, 42, 49, 56, 57, 50, 43, 36, 29, 22, 15, 23, 30, 37, 44, 51,
	58, 59, 52, 45, 38, 31, 39, 46, 53, 60, 61, 54, 47, 55, 62, 63,
}

// chance is a row of numbers that look like chance and are always the same.
type chance uint64

func (c *chance) below(n int) int {
	*c = *c*6364136223846793005 + 1442695040888963407
	return int(uint64(*c) >> 33 % uint64(n))
}

// level tells a level of chance.
func (c *chance) level() int {
	n := 1 + c.below(127)
	if c.below(2) == 0 {
		return -n
	}
	return n
}

// block tells a block of chance in which so many of a hundred numbers are no noughts, from first on.
func (c *chance) block(first, dense int) []int {
	b := make([]int, 64)
	for _, place := range order[first:] {
		if c.below(100) < dense {
			b[place] = c.level()
		}
	}
	return b
}

// of tells pairs of runs and levels.
func of(l ...int) []api.Pair {
	var pairs []api.Pair
	for i := 0; i < len(l); i += 2 {
		pairs = append(pairs, api.Pair{Run: l[i], Level: l[i+1]})
	}
	return pairs
}

// put tells the block of numbers at places.
func put(l ...int) []int {
	b := make([]int, 64)
	for i := 0; i < len(l); i += 2 {
		b[l[i]] = l[i+1]
	}
	return b
}

// full tells a block of one number everywhere.
func full(n int) []int {
	return slices.Repeat([]int{n}, 64)
}

// place looks whether Place answers just this.
func place(t *testing.T, i, want int, err api.Errno) {
	t.Helper()
	if n, e := scan.Place(i); n != want || e != err {
		t.Fatalf("Place(%d): %d, %d, not %d, %d", i, n, e, want, err)
	}
}

// spread looks whether Spread answers just this, and leaves the pairs.
func spread(t *testing.T, l []api.Pair, first int, want []int, err api.Errno) {
	t.Helper()
	was := slices.Clone(l)
	b, e := scan.Spread(l, first)
	if !slices.Equal(b, want) || e != err {
		t.Fatalf("Spread(%v, %d): %v, %d, not %v, %d", l, first, b, e, want, err)
	}
	if !slices.Equal(l, was) {
		t.Fatalf("Spread(%v, %d) changed them: %v", was, first, l)
	}
}

// runs looks whether Runs answers just this, and leaves the block.
func runs(t *testing.T, block []int, first int, want []api.Pair, err api.Errno) {
	t.Helper()
	was := slices.Clone(block)
	l, e := scan.Runs(block, first)
	if !slices.Equal(l, want) || e != err {
		t.Fatalf("Runs(%v, %d): %v, %d, not %v, %d", block, first, l, e, want, err)
	}
	if !slices.Equal(block, was) {
		t.Fatalf("Runs(%v, %d) changed it: %v", was, first, block)
	}
}

// both looks whether pairs are spread to a block, and the block runs to them.
func both(t *testing.T, l []api.Pair, first int, block []int) {
	t.Helper()
	spread(t, l, first, block, api.OK)
	runs(t, block, first, l, api.OK)
}

// far tells numbers that lie far from any place, run and level; the last eight, 16 or 32 bits of some would be a small one.
func far() []int {
	return []int{255, 256, 257, -255, -256, -257, 1000, -1000, 1 << 16, 1<<16 + 1, -1<<16 + 1, 1 << 31, 1<<32 + 1, -1<<32 + 1, 1 << 40, -1 << 40, math.MaxInt - 63, math.MaxInt - 1, math.MaxInt, math.MinInt, math.MinInt + 1, math.MinInt + 64}
}

// noLevels tells what is neither a nought nor a level.
func noLevels() []int {
	return append([]int{128, -128, 129, -129}, far()...)
}

// noFirsts tells what is no first place of pairs.
func noFirsts() []int {
	return append([]int{-1, 2, -2, 3, 8, 62, 63, 64}, far()...)
}

// plainSpread tells what Spread must answer, by the words of the promise.
func plainSpread(l []api.Pair, first int) ([]int, api.Errno) {
	if first != 0 && first != 1 {
		return nil, api.ErrRange
	}
	b := make([]int, 64)
	free := order[first:]
	for _, p := range l {
		if p.Level == 0 || p.Level < -127 || p.Level > 127 {
			return nil, api.ErrLevel
		}
		if p.Run < 0 || len(free) <= p.Run {
			return nil, api.ErrRun
		}
		b[free[p.Run]] = p.Level
		free = free[p.Run+1:]
	}
	return b, api.OK
}

// plainRuns tells what Runs must answer, by the words of the promise.
func plainRuns(block []int, first int) ([]api.Pair, api.Errno) {
	if first != 0 && first != 1 {
		return nil, api.ErrRange
	}
	if len(block) != 64 || first == 1 && block[0] != 0 {
		return nil, api.ErrArg
	}
	var l []api.Pair
	noughts := 0
	for _, place := range order[first:] {
		if n := block[place]; n < -127 || n > 127 {
			return nil, api.ErrLevel
		} else if n == 0 {
			noughts++
		} else {
			l = append(l, api.Pair{Run: noughts, Level: n})
			noughts = 0
		}
	}
	return l, api.OK
}

func TestExamples(t *testing.T) {
	place(t, 0, 0, api.OK)
	place(t, 2, 8, api.OK)
	place(t, 3, 16, api.OK)
	place(t, 63, 63, api.OK)
	place(t, 64, 0, api.ErrRange)
	place(t, -1, 0, api.ErrRange)
	spread(t, of(0, 5, 1, -2), 0, put(0, 5, 8, -2), api.OK)
	spread(t, of(0, 5, 1, -2), 1, put(1, 5, 16, -2), api.OK)
	spread(t, of(62, 1), 1, put(63, 1), api.OK)
	spread(t, of(63, 1), 1, nil, api.ErrRun)
	spread(t, of(0, 0), 0, nil, api.ErrLevel)
	spread(t, of(0, 128), 0, nil, api.ErrLevel)
	spread(t, of(-1, 1), 0, nil, api.ErrRun)
	spread(t, nil, 2, nil, api.ErrRange)
	runs(t, put(0, 5, 8, -2), 0, of(0, 5, 1, -2), api.OK)
	runs(t, put(0, 5), 1, nil, api.ErrArg)
	runs(t, []int{5, 0, 0}, 0, nil, api.ErrArg)
}

// TestPlaces holds each place against the document's list.
func TestPlaces(t *testing.T) {
	if len(order) != 64 {
		t.Fatal("the list has", len(order))
	}
	for i, want := range order {
		place(t, i, want, api.OK)
	}
	place(t, 1, 1, api.OK)
	place(t, 62, 62, api.OK)
}

// TestPlacesGoByDiagonals looks whether each place stands in the order once, and goes to and fro by diagonals.
func TestPlacesGoByDiagonals(t *testing.T) {
	seen := map[int]bool{}
	x, y := 0, 0
	for i := range 64 {
		n, e := scan.Place(i)
		if e != api.OK || n < 0 || n > 63 || seen[n] {
			t.Fatal(i, n, e)
		}
		seen[n] = true
		right, down := n%8, n/8
		switch up := (right+down)%2 == 0; {
		case i == 0:
		case right+down == x+y && up != (right == x+1 && down == y-1):
			t.Fatal(i, n, "goes the wrong way")
		case right+down == x+y && !up && (right != x-1 || down != y+1):
			t.Fatal(i, n, "goes the wrong way")
		case right+down != x+y && right+down != x+y+1:
			t.Fatal(i, n, "is of a wrong diagonal")
		}
		x, y = right, down
	}
}

func TestPlaceOfStrangers(t *testing.T) {
	for _, i := range append([]int{-1, -2, -63, -64, -65, 64, 65, 127, 128}, far()...) {
		place(t, i, 0, api.ErrRange)
	}
}

// TestSinglePairs spreads a pair at each place, with each level that may be.
func TestSinglePairs(t *testing.T) {
	for first := range 2 {
		for run := range 64 - first {
			for level := -127; level <= 127; level++ {
				if level != 0 {
					both(t, of(run, level), first, put(order[first+run], level))
				}
			}
		}
	}
}

// TestTwoPairs spreads two pairs at all places there are.
func TestTwoPairs(t *testing.T) {
	c := chance(1)
	for first := range 2 {
		for i := first; i < 64; i++ {
			for j := i + 1; j < 64; j++ {
				n, m := c.level(), c.level()
				both(t, of(i-first, n, j-i-1, m), first, put(order[i], n, order[j], m))
			}
		}
	}
}

// TestNoPairs spreads none: the block is nought alone.
func TestNoPairs(t *testing.T) {
	for first := range 2 {
		spread(t, nil, first, full(0), api.OK)
		spread(t, []api.Pair{}, first, full(0), api.OK)
		runs(t, full(0), first, nil, api.OK)
	}
}

// TestFullBlocks takes every place there is: 64 pairs from 0 on, 63 from 1 on, and one more has no place.
func TestFullBlocks(t *testing.T) {
	for _, level := range []int{1, -1, 5, 127, -127} {
		both(t, slices.Repeat(of(0, level), 64), 0, full(level))
		both(t, slices.Repeat(of(0, level), 63), 1, append([]int{0}, full(level)[1:]...))
		spread(t, slices.Repeat(of(0, level), 65), 0, nil, api.ErrRun)
		spread(t, slices.Repeat(of(0, level), 64), 1, nil, api.ErrRun)
		spread(t, slices.Repeat(of(0, level), 1000), 0, nil, api.ErrRun)
	}
	var l []api.Pair
	b := make([]int, 64)
	for i, place := range order {
		l = append(l, api.Pair{Level: 64*(i%2*2-1) + i - 32})
		b[place] = l[i].Level
		if b[place] == 0 {
			t.Fatal("a nought at", i)
		}
	}
	both(t, l, 0, b)
	b[0] = 0
	both(t, l[1:], 1, b)
}

// TestLastRuns spreads the last run that still has a place behind pairs, and the first that has none.
func TestLastRuns(t *testing.T) {
	for first := range 2 {
		for many := range 64 - first {
			ahead := slices.Repeat(of(0, 3), many)
			last := 63 - first - many
			want := make([]int, 64)
			for _, place := range order[first : first+many] {
				want[place] = 3
			}
			want[63] = -127
			both(t, append(slices.Clone(ahead), api.Pair{Run: last, Level: -127}), first, want)
			for _, run := range append([]int{last + 1, last + 2, 64, 65, -1, -2, -63, -64}, far()...) {
				spread(t, append(slices.Clone(ahead), api.Pair{Run: run, Level: -127}), first, nil, api.ErrRun)
			}
		}
		spread(t, of(62-first, 1, 0, 2), first, put(62, 1, 63, 2), api.OK)
		spread(t, of(62-first, 1, 1, 2), first, nil, api.ErrRun)
		spread(t, of(63-first, 1, 0, 2), first, nil, api.ErrRun)
		spread(t, of(0, 1, math.MaxInt, 1), first, nil, api.ErrRun)
		spread(t, of(0, 1, math.MaxInt, 1, math.MaxInt, 1), first, nil, api.ErrRun)
	}
	spread(t, of(63, 1), 0, put(63, 1), api.OK)
	spread(t, of(64, 1), 0, nil, api.ErrRun)
	spread(t, of(62, 1), 0, put(62, 1), api.OK)
	spread(t, of(61, 1), 1, put(62, 1), api.OK)
}

func TestSpreadRefusesLevels(t *testing.T) {
	for first := range 2 {
		for _, level := range append(noLevels(), 0) {
			spread(t, of(0, level), first, nil, api.ErrLevel)
			spread(t, of(5, 127, 3, level), first, nil, api.ErrLevel)
			spread(t, of(0, 1, 0, level, 0, 1), first, nil, api.ErrLevel)
		}
	}
}

func TestFirstRefused(t *testing.T) {
	for _, first := range noFirsts() {
		for _, l := range [][]api.Pair{nil, of(0, 1), of(0, 0), of(-1, 1), of(64, 1), of(63, 128)} {
			spread(t, l, first, nil, api.ErrRange)
		}
		for _, b := range [][]int{nil, {1, 2, 3}, full(0), full(1), put(0, 5), put(9, 128), make([]int, 65)} {
			runs(t, b, first, nil, api.ErrRange)
		}
	}
}

// TestOrderOfSpreadsErrors spreads what more than one error could be told of.
func TestOrderOfSpreadsErrors(t *testing.T) {
	for first := range 2 {
		for _, run := range []int{-1, 64, math.MaxInt, math.MinInt} {
			for _, level := range []int{0, 128, -128, math.MinInt} {
				spread(t, of(run, level), first, nil, api.ErrLevel)
				spread(t, of(0, 1, run, level), first, nil, api.ErrLevel)
				spread(t, of(run, 1, 0, level), first, nil, api.ErrRun)
				spread(t, of(0, level, run, 1), first, nil, api.ErrLevel)
				spread(t, of(run, level, run, 1), first, nil, api.ErrLevel)
				spread(t, of(run, 1, run, level), first, nil, api.ErrRun)
				spread(t, of(run, level), 2, nil, api.ErrRange)
				spread(t, of(run, 1), -1, nil, api.ErrRange)
			}
		}
		all := slices.Repeat(of(0, 1), 64-first)
		spread(t, append(all, of(0, 0)...), first, nil, api.ErrLevel)
		spread(t, append(all, of(0, 1, 0, 0)...), first, nil, api.ErrRun)
	}
}

// TestRunsOfOtherLengths hands blocks that have not 64 numbers.
func TestRunsOfOtherLengths(t *testing.T) {
	for _, n := range []int{0, 1, 2, 3, 8, 32, 62, 63, 65, 66, 127, 128, 256, 320, 4096} {
		for first := range 2 {
			runs(t, make([]int, n), first, nil, api.ErrArg)
			runs(t, slices.Repeat([]int{1}, n), first, nil, api.ErrArg)
			runs(t, slices.Repeat([]int{128}, n), first, nil, api.ErrArg)
		}
	}
	runs(t, nil, 0, nil, api.ErrArg)
	runs(t, nil, 1, nil, api.ErrArg)
	runs(t, make([]int, 63, 64), 0, nil, api.ErrArg)
	runs(t, make([]int, 65)[:64], 0, nil, api.OK)
}

// TestPlaceNought hands blocks whose place 0 is not 0, from 0 and from 1 on.
func TestPlaceNought(t *testing.T) {
	for _, n := range []int{1, -1, 5, 127, -127} {
		runs(t, put(0, n), 0, of(0, n), api.OK)
		runs(t, put(0, n), 1, nil, api.ErrArg)
		runs(t, put(0, n, 1, n), 1, nil, api.ErrArg)
		runs(t, put(0, n, 63, 128), 1, nil, api.ErrArg)
		runs(t, put(0, n, 63, 128), 0, nil, api.ErrLevel)
		runs(t, put(1, n), 0, of(1, n), api.OK)
		runs(t, put(1, n), 1, of(0, n), api.OK)
	}
	for _, n := range noLevels() {
		runs(t, put(0, n), 0, nil, api.ErrLevel)
		runs(t, put(0, n), 1, nil, api.ErrArg)
	}
}

// TestRunsRefusesNumbers hands a number that is no level at each place, behind pairs and ahead of them.
func TestRunsRefusesNumbers(t *testing.T) {
	for _, n := range noLevels() {
		for place := range 64 {
			b := put(63, 1, 1, 2)
			b[place] = n
			runs(t, b, 0, nil, api.ErrLevel)
			if place > 0 {
				runs(t, b, 1, nil, api.ErrLevel)
			}
			b = full(-127)
			b[place] = n
			runs(t, b, 0, nil, api.ErrLevel)
		}
	}
}

// TestBlocksAreAsTheyWere tells blocks of chance as pairs and spreads these.
func TestBlocksAreAsTheyWere(t *testing.T) {
	c := chance(3)
	for range 3000 {
		first := c.below(2)
		b := c.block(first, c.below(101))
		l, e := plainRuns(b, first)
		if e != api.OK {
			t.Fatal(b, e)
		}
		both(t, l, first, b)
	}
}

// TestPairsByChance spreads pairs of chance, of which some are wrong.
func TestPairsByChance(t *testing.T) {
	c := chance(5)
	seen := map[api.Errno]int{}
	for range 20000 {
		first := c.below(2)
		if c.below(20) == 0 {
			first = noFirsts()[c.below(len(noFirsts()))]
		}
		var l []api.Pair
		long := 1 + c.below(20)
		for range c.below(40) {
			p := api.Pair{Run: c.below(long), Level: c.level()}
			switch c.below(60) {
			case 0:
				p.Level = append(noLevels(), 0)[c.below(len(noLevels())+1)]
			case 1:
				p.Run = far()[c.below(len(far()))]
			}
			l = append(l, p)
		}
		want, err := plainSpread(l, first)
		spread(t, l, first, want, err)
		if err == api.OK {
			runs(t, want, first, l, api.OK)
		}
		seen[err]++
	}
	if len(seen) != 4 {
		t.Error("some error never came", seen)
	}
}

// TestBlocksByChance tells the pairs of blocks of chance, of which some are wrong.
func TestBlocksByChance(t *testing.T) {
	c := chance(7)
	seen := map[api.Errno]int{}
	for range 20000 {
		first := c.below(2)
		b := c.block(c.below(2), c.below(101))
		switch c.below(6) {
		case 0:
			b[c.below(64)] = noLevels()[c.below(len(noLevels()))]
		case 1:
			b = b[:c.below(64)]
		case 2:
			first = noFirsts()[c.below(len(noFirsts()))]
		}
		want, err := plainRuns(b, first)
		runs(t, b, first, want, err)
		seen[err]++
	}
	if len(seen) != 4 {
		t.Error("some error never came", seen)
	}
}

// TestAnswersAreNew changes what was answered, and its spare room: neither what was handed in nor a later answer changes.
func TestAnswersAreNew(t *testing.T) {
	l := append(make([]api.Pair, 0, 80), of(0, 5, 1, -2)...)
	block := put(0, 5, 8, -2)
	for range 3 {
		b, e := scan.Spread(l, 0)
		if e != api.OK || !slices.Equal(b, block) {
			t.Fatal(b, e)
		}
		pairs, e := scan.Runs(block, 0)
		if e != api.OK || !slices.Equal(pairs, of(0, 5, 1, -2)) {
			t.Fatal(pairs, e)
		}
		b, pairs = b[:cap(b)], pairs[:cap(pairs)]
		for i := range b {
			b[i] = 99
		}
		for i := range pairs {
			pairs[i] = api.Pair{Run: 9, Level: 9}
		}
		if !slices.Equal(block, put(0, 5, 8, -2)) || !slices.Equal(l, of(0, 5, 1, -2)) {
			t.Fatal("what was handed in was changed", block, l)
		}
		for _, p := range l[2:cap(l)] {
			if p != (api.Pair{}) {
				t.Fatal("spare room was written")
			}
		}
	}
}

// TestHandedInIsNotKept changes what was handed in: what was answered stays.
func TestHandedInIsNotKept(t *testing.T) {
	l, block := of(0, 5, 1, -2), put(0, 5, 8, -2)
	b, _ := scan.Spread(l, 0)
	pairs, _ := scan.Runs(block, 0)
	l[0], l[1], block[0], block[1] = api.Pair{}, api.Pair{}, 7, 7
	if !slices.Equal(b, put(0, 5, 8, -2)) || !slices.Equal(pairs, of(0, 5, 1, -2)) {
		t.Error("answers changed", b, pairs)
	}
}

// TestSpareRoomIsNotRead hands pieces of longer lists: what stands behind them does not matter.
func TestSpareRoomIsNotRead(t *testing.T) {
	l := of(0, 5, 1, -2, 0, 0, -1, 500)
	spread(t, l[:2], 0, put(0, 5, 8, -2), api.OK)
	spread(t, l[:0], 1, full(0), api.OK)
	long := append(put(0, 5, 8, -2), 500, 500)
	runs(t, long[:64], 0, of(0, 5, 1, -2), api.OK)
	runs(t, long[:63], 0, nil, api.ErrArg)
	runs(t, long[1:65], 0, nil, api.ErrLevel)
	if long[64] != 500 || long[65] != 500 || l[2].Level != 0 || l[3].Level != 500 {
		t.Error("what stands behind was changed")
	}
}

// TestAnswersStay asks again and again, also for wrong things: no call tells on another one.
func TestAnswersStay(t *testing.T) {
	c := chance(9)
	for range 500 {
		i := c.below(64)
		place(t, i, order[i], api.OK)
		place(t, 64+c.below(64), 0, api.ErrRange)
		both(t, of(i, 1), 0, put(order[i], 1))
		spread(t, of(0, 9, 63, 1), 0, nil, api.ErrRun)
		spread(t, of(0, 9, 3, 0), 0, nil, api.ErrLevel)
		runs(t, put(5, 9, 63, 128), 0, nil, api.ErrLevel)
		runs(t, full(0), 1, nil, api.OK)
		spread(t, nil, 0, full(0), api.OK)
	}
}
