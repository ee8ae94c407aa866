package quant_test

import (
	"math"
	"slices"
	"testing"

	"praxinoscope/api"
	"praxinoscope/quant"
)

// chance is a row of numbers that look like chance and are always the same.
type chance uint64

func (c *chance) below(n int) int {
	*c = *c*6364136223846793005 + 1442695040888963407
	return int(uint64(*c) >> 33 % uint64(n))
}

// of tells one of a list.
func (c *chance) of(l []int) int {
	return l[c.below(len(l))]
}

// block tells levels of chance, of which so many of a hundred are not 0.
func (c *chance) block(dense int) []int {
	b := make([]int, 64)
	for i := range b {
		if c.below(100) < dense {
			b[i] = c.below(255) - 127
		}
	}
	return b
}

// far tells numbers that lie far from any level, quantiser, code and value; the last eight, 16 or 32 bits of some would be a small one.
func far() []int {
	return []int{1 << 16, 1<<16 + 1, 1<<16 + 5, -1 << 16, -1<<16 + 1, 1 << 31, 1<<31 - 1, 1<<32 + 1, 1<<32 + 31, -1<<32 + 1, 1 << 40, -1 << 40, math.MaxInt, math.MaxInt - 1, math.MaxInt / 2, math.MinInt, math.MinInt + 1, math.MinInt / 2}
}

// noLevels tells what is no level.
func noLevels() []int {
	return append([]int{128, -128, 129, -129, 255, 256, 257, -255, -256, -257, 1000, -1000}, far()...)
}

// noQuants tells what is no quantiser.
func noQuants() []int {
	return append([]int{0, 32, -1, -2, -31, -32, 33, 34, 63, 64, 65, 255, 256, 257, 258, -255, 1000}, far()...)
}

// noCodes tells what has not even the range of a code.
func noCodes() []int {
	return append([]int{-1, -2, -128, -255, -256, 256, 257, 258, 384, 511, 512, 1000}, far()...)
}

// noValues tells what is no value, nor between values.
func noValues() []int {
	return append([]int{2048, 2049, -2049, -2050, 4095, 4096, 4097, -4096, -4095, 10000, -10000}, far()...)
}

// full tells a block of one level everywhere.
func full(n int) []int {
	return slices.Repeat([]int{n}, 64)
}

// with tells a block of ones but at one place.
func with(place, n int) []int {
	b := full(1)
	b[place] = n
	return b
}

// plainValue tells a level's value by the words of the chapter.
func plainValue(level, quant int) int {
	if level == 0 {
		return 0
	}
	m, side := level, 1
	if level < 0 {
		m, side = -level, -1
	}
	n := quant * (2*m + 1)
	if quant == 2*(quant/2) {
		n--
	}
	n *= side
	if n > 2047 {
		return 2047
	}
	if n < -2048 {
		return -2048
	}
	return n
}

// plainNearest tells the nearest level by looking at all of them.
func plainNearest(value, quant int) int {
	best := 0
	for level := -127; level <= 127; level++ {
		gap, least := distance(plainValue(level, quant), value), distance(plainValue(best, quant), value)
		if gap < least || gap == least && distance(level, 0) < distance(best, 0) {
			best = level
		}
	}
	return best
}

// plainDC tells what DC must answer.
func plainDC(code int) (int, api.Errno) {
	if code < 0 || code > 255 {
		return 0, api.ErrRange
	}
	if code == 0 || code == 128 {
		return 0, api.ErrLevel
	}
	if code == 255 {
		return 1024, api.OK
	}
	return code * 8, api.OK
}

// plainInter tells what Inter must answer.
func plainInter(levels []int, quant int) ([]int, api.Errno) {
	if len(levels) != 64 {
		return nil, api.ErrArg
	}
	if quant < 1 || quant > 31 {
		return nil, api.ErrRange
	}
	var l []int
	for _, level := range levels {
		if level < -127 || level > 127 {
			return nil, api.ErrRange
		}
		l = append(l, plainValue(level, quant))
	}
	return l, api.OK
}

// plainIntra tells what Intra must answer.
func plainIntra(levels []int, quant, code int) ([]int, api.Errno) {
	l, e := plainInter(levels, quant)
	if e != api.OK {
		return nil, e
	}
	n, e := plainDC(code)
	if e != api.OK {
		return nil, e
	}
	l[0] = n
	return l, api.OK
}

// distance tells how far two numbers lie from each other.
func distance(a, b int) int {
	if a < b {
		return b - a
	}
	return a - b
}

// value looks whether Value answers just this.
func value(t *testing.T, level, q, want int, err api.Errno) {
	t.Helper()
	if n, e := quant.Value(level, q); n != want || e != err {
		t.Fatalf("Value(%d, %d): %d, %d, not %d, %d", level, q, n, e, want, err)
	}
}

// dc looks whether DC answers just this.
func dc(t *testing.T, code, want int, err api.Errno) {
	t.Helper()
	if n, e := quant.DC(code); n != want || e != err {
		t.Fatalf("DC(%d): %d, %d, not %d, %d", code, n, e, want, err)
	}
}

// inter looks whether Inter answers just this, and leaves the levels.
func inter(t *testing.T, levels []int, q int, want []int, err api.Errno) {
	t.Helper()
	was := slices.Clone(levels)
	l, e := quant.Inter(levels, q)
	if !slices.Equal(l, want) || e != err {
		t.Fatalf("Inter(%v, %d): %v, %d, not %v, %d", levels, q, l, e, want, err)
	}
	if !slices.Equal(levels, was) {
		t.Fatalf("Inter(%v, %d) changed them: %v", was, q, levels)
	}
}

// intra looks whether Intra answers just this, and leaves the levels.
func intra(t *testing.T, levels []int, q, code int, want []int, err api.Errno) {
	t.Helper()
	was := slices.Clone(levels)
	l, e := quant.Intra(levels, q, code)
	if !slices.Equal(l, want) || e != err {
		t.Fatalf("Intra(%v, %d, %d): %v, %d, not %v, %d", levels, q, code, l, e, want, err)
	}
	if !slices.Equal(levels, was) {
		t.Fatalf("Intra(%v, %d, %d) changed them: %v", was, q, code, levels)
	}
}

// nearest looks whether Nearest answers just this.
func nearest(t *testing.T, n, q, want int, err api.Errno) {
	t.Helper()
	if level, e := quant.Nearest(n, q); level != want || e != err {
		t.Fatalf("Nearest(%d, %d): %d, %d, not %d, %d", n, q, level, e, want, err)
	}
}

func TestExamples(t *testing.T) {
	value(t, 1, 1, 3, api.OK)
	value(t, 1, 2, 5, api.OK)
	value(t, -1, 2, -5, api.OK)
	value(t, 127, 31, 2047, api.OK)
	value(t, -127, 31, -2048, api.OK)
	value(t, 0, 5, 0, api.OK)
	value(t, 128, 1, 0, api.ErrRange)
	value(t, 1, 32, 0, api.ErrRange)
	dc(t, 1, 8, api.OK)
	dc(t, 254, 2032, api.OK)
	dc(t, 255, 1024, api.OK)
	dc(t, 0, 0, api.ErrLevel)
	dc(t, 128, 0, api.ErrLevel)
	dc(t, 256, 0, api.ErrRange)
	nearest(t, 4, 1, 1, api.OK)
	nearest(t, 0, 9, 0, api.OK)
	nearest(t, 2, 1, 1, api.OK)
	nearest(t, -2048, 31, -33, api.OK)
	nearest(t, 2048, 1, 0, api.ErrRange)
}

// TestValues tells each level by each quantiser.
func TestValues(t *testing.T) {
	for q := 1; q <= 31; q++ {
		for level := -127; level <= 127; level++ {
			value(t, level, q, plainValue(level, q), api.OK)
		}
	}
}

// TestValuesAtEdges tells the values at the edges, reckoned by hand.
func TestValuesAtEdges(t *testing.T) {
	for _, x := range [][3]int{
		{1, 1, 3}, {-1, 1, -3}, {1, 2, 5}, {-1, 2, -5}, {1, 30, 89}, {-1, 30, -89}, {1, 31, 93}, {-1, 31, -93},
		{2, 1, 5}, {-2, 1, -5}, {2, 2, 9}, {-2, 2, -9}, {126, 1, 253}, {127, 1, 255}, {-127, 1, -255}, {127, 2, 509}, {-127, 2, -509},
		{126, 8, 2023}, {127, 8, 2039}, {-127, 8, -2039}, {113, 9, 2043}, {-113, 9, -2043}, {114, 9, 2047}, {-114, 9, -2048},
		{33, 30, 2009}, {-33, 30, -2009}, {34, 30, 2047}, {-34, 30, -2048}, {127, 30, 2047}, {-127, 30, -2048},
		{32, 31, 2015}, {-32, 31, -2015}, {33, 31, 2047}, {-33, 31, -2048}, {127, 31, 2047}, {-127, 31, -2048},
		{43, 23, 2001}, {44, 23, 2047}, {-44, 23, -2047}, {45, 23, 2047}, {-45, 23, -2048},
	} {
		value(t, x[0], x[1], x[2], api.OK)
	}
	for q := 1; q <= 31; q++ {
		value(t, 0, q, 0, api.OK)
	}
}

func TestValueRefuses(t *testing.T) {
	for _, n := range noLevels() {
		for _, q := range []int{1, 2, 30, 31} {
			value(t, n, q, 0, api.ErrRange)
		}
		for _, q := range noQuants() {
			value(t, n, q, 0, api.ErrRange)
		}
	}
	for _, q := range noQuants() {
		for _, level := range []int{0, 1, -1, 127, -127} {
			value(t, level, q, 0, api.ErrRange)
		}
	}
}

// TestCodes tells each code there is, and each that is none.
func TestCodes(t *testing.T) {
	for code := 1; code < 255; code++ {
		if code != 128 {
			dc(t, code, 8*code, api.OK)
		}
	}
	dc(t, 127, 1016, api.OK)
	dc(t, 129, 1032, api.OK)
	dc(t, 255, 1024, api.OK)
	dc(t, 0, 0, api.ErrLevel)
	dc(t, 128, 0, api.ErrLevel)
	for _, code := range noCodes() {
		dc(t, code, 0, api.ErrRange)
	}
}

// TestEveryLevelInBlocks puts each level at some place of a block, and each quantiser by it.
func TestEveryLevelInBlocks(t *testing.T) {
	for q := 1; q <= 31; q++ {
		for level := -127; level <= 127; level++ {
			levels := with((level+127)%64, level)
			want, e := plainInter(levels, q)
			inter(t, levels, q, want, e)
			code := 1 + (level+127)%127
			want[0] = 8 * code
			intra(t, levels, q, code, want, api.OK)
		}
	}
}

// TestEveryPlace puts a level at each place: Intra tells the code in the first one, Inter what stands there.
func TestEveryPlace(t *testing.T) {
	for place := range 64 {
		for _, level := range []int{0, -1, 127, -127} {
			levels, want := with(place, level), full(9)
			want[place] = plainValue(level, 3)
			inter(t, levels, 3, want, api.OK)
			for _, x := range [][2]int{{1, 8}, {127, 1016}, {129, 1032}, {254, 2032}, {255, 1024}} {
				want[0] = x[1]
				intra(t, levels, 3, x[0], want, api.OK)
			}
		}
	}
	inter(t, full(0), 31, full(0), api.OK)
	intra(t, full(0), 1, 255, append([]int{1024}, full(0)[1:]...), api.OK)
	inter(t, full(127), 31, full(2047), api.OK)
	inter(t, full(-127), 30, full(-2048), api.OK)
}

// TestEveryCodeInBlocks hands each code: the first level does not matter, if it is one.
func TestEveryCodeInBlocks(t *testing.T) {
	for code := -2; code < 258; code++ {
		for _, first := range []int{0, 1, 127, -127} {
			n, e := plainDC(code)
			if e != api.OK {
				intra(t, with(0, first), 2, code, nil, e)
				continue
			}
			want := full(5)
			want[0] = n
			intra(t, with(0, first), 2, code, want, api.OK)
		}
	}
	for _, code := range noCodes() {
		intra(t, full(1), 2, code, nil, api.ErrRange)
	}
}

// TestBlocksOfOtherLengths hands blocks that are not 64.
func TestBlocksOfOtherLengths(t *testing.T) {
	for _, n := range []int{0, 1, 2, 8, 32, 62, 63, 65, 66, 127, 128, 256, 320, 4096} {
		for _, level := range []int{0, 1, 128} {
			l := slices.Repeat([]int{level}, n)
			for _, q := range []int{1, 31, 0, 32} {
				inter(t, l, q, nil, api.ErrArg)
				for _, code := range []int{1, 0, 128, 256} {
					intra(t, l, q, code, nil, api.ErrArg)
				}
			}
		}
	}
	inter(t, nil, 1, nil, api.ErrArg)
	intra(t, nil, 1, 1, nil, api.ErrArg)
	inter(t, make([]int, 63, 64), 1, nil, api.ErrArg)
	intra(t, make([]int, 63, 64), 1, 1, nil, api.ErrArg)
}

// TestBlocksRefuseLevels puts what is no level at each place, the first one too.
func TestBlocksRefuseLevels(t *testing.T) {
	for _, n := range noLevels() {
		for place := range 64 {
			inter(t, with(place, n), 5, nil, api.ErrRange)
			for _, code := range []int{1, 255, 0, 128, -1, 256} {
				intra(t, with(place, n), 5, code, nil, api.ErrRange)
			}
		}
	}
}

// TestBlocksRefuseQuants hands what is no quantiser, also by levels that are all 0.
func TestBlocksRefuseQuants(t *testing.T) {
	for _, q := range noQuants() {
		for _, levels := range [][]int{full(0), full(1), full(-127), with(0, 128)} {
			inter(t, levels, q, nil, api.ErrRange)
			for _, code := range []int{1, 255, 0, 128, -1, 256} {
				intra(t, levels, q, code, nil, api.ErrRange)
			}
		}
	}
}

// TestOrderOfErrors hands blocks of which more than one error could be told.
func TestOrderOfErrors(t *testing.T) {
	inter(t, full(1)[1:], 0, nil, api.ErrArg)
	inter(t, full(128)[1:], 32, nil, api.ErrArg)
	intra(t, full(1)[1:], 0, 0, nil, api.ErrArg)
	intra(t, full(128)[1:], 1, 256, nil, api.ErrArg)
	intra(t, full(1), 0, 0, nil, api.ErrRange)
	intra(t, full(1), 32, 128, nil, api.ErrRange)
	intra(t, with(0, 128), 1, 0, nil, api.ErrRange)
	intra(t, with(63, -128), 1, 128, nil, api.ErrRange)
	intra(t, full(1), 1, 0, nil, api.ErrLevel)
	intra(t, full(1), 31, 128, nil, api.ErrLevel)
	intra(t, full(1), 1, -1, nil, api.ErrRange)
	intra(t, full(1), 31, 256, nil, api.ErrRange)
}

// TestBlocksByChance tells blocks of chance by quantisers of chance, of which some are wrong.
func TestBlocksByChance(t *testing.T) {
	c := chance(1)
	seen := map[api.Errno]int{}
	for range 20000 {
		levels, q, code := c.block(c.below(101)), 1+c.below(31), c.below(256)
		switch c.below(12) {
		case 0:
			levels[c.below(64)] = c.of(noLevels())
		case 1:
			levels = levels[:c.below(64)]
		case 2:
			q = c.of(noQuants())
		case 3:
			code = c.of(noCodes())
		case 4:
			code = 128 * c.below(2)
		}
		want, e := plainInter(levels, q)
		inter(t, levels, q, want, e)
		want, e = plainIntra(levels, q, code)
		intra(t, levels, q, code, want, e)
		seen[e]++
	}
	if len(seen) != 4 {
		t.Error("some error never came", seen)
	}
}

// TestNearest tells the level nearest to each value, by each quantiser.
func TestNearest(t *testing.T) {
	for q := 1; q <= 31; q++ {
		for n := -2048; n <= 2047; n++ {
			nearest(t, n, q, plainNearest(n, q), api.OK)
		}
	}
}

// TestNearestAtEdges tells the nearest levels of values between two of them, and at the ends, reckoned by hand.
func TestNearestAtEdges(t *testing.T) {
	for _, x := range [][3]int{
		{1, 1, 0}, {-1, 1, 0}, {2, 1, 1}, {-2, 1, -1}, {3, 1, 1}, {4, 1, 1}, {-4, 1, -1}, {5, 1, 2}, {6, 1, 2}, {-6, 1, -2},
		{2, 2, 0}, {-2, 2, 0}, {3, 2, 1}, {-3, 2, -1}, {7, 2, 1}, {-7, 2, -1}, {8, 2, 2}, {-8, 2, -2}, {11, 2, 2}, {-11, 2, -2},
		{254, 1, 126}, {-254, 1, -126}, {255, 1, 127}, {256, 1, 127}, {-256, 1, -127}, {2046, 1, 127}, {2047, 1, 127}, {-2047, 1, -127}, {-2048, 1, -127},
		{508, 2, 127}, {2047, 2, 127}, {-2048, 2, -127}, {2040, 8, 127}, {2047, 8, 127}, {-2048, 8, -127},
		{44, 30, 0}, {-44, 30, 0}, {45, 30, 1}, {-45, 30, -1}, {2028, 30, 33}, {-2028, 30, -33}, {2029, 30, 34}, {-2029, 30, -34}, {2047, 30, 34}, {-2048, 30, -34},
		{46, 31, 0}, {-46, 31, 0}, {47, 31, 1}, {-47, 31, -1}, {124, 31, 1}, {-124, 31, -1}, {125, 31, 2}, {-125, 31, -2},
		{2031, 31, 32}, {-2031, 31, -32}, {2032, 31, 33}, {-2032, 31, -33}, {2046, 31, 33}, {2047, 31, 33}, {-2047, 31, -33}, {-2048, 31, -33},
		{2047, 23, 44}, {-2047, 23, -44}, {-2048, 23, -45}, {2045, 9, 113}, {2046, 9, 114}, {-2045, 9, -113}, {-2046, 9, -114},
	} {
		nearest(t, x[0], x[1], x[2], api.OK)
	}
	for q := 1; q <= 31; q++ {
		nearest(t, 0, q, 0, api.OK)
	}
}

func TestNearestRefuses(t *testing.T) {
	for _, n := range noValues() {
		for _, q := range append([]int{1, 2, 30, 31}, noQuants()...) {
			nearest(t, n, q, 0, api.ErrRange)
		}
	}
	for _, q := range noQuants() {
		for _, n := range []int{0, 3, -3, 2047, -2048} {
			nearest(t, n, q, 0, api.ErrRange)
		}
	}
}

// TestNearestOfValues takes each level's value back to a level of that value.
func TestNearestOfValues(t *testing.T) {
	for q := 1; q <= 31; q++ {
		for level := -127; level <= 127; level++ {
			n, _ := quant.Value(level, q)
			near, e := quant.Nearest(n, q)
			if e != api.OK || distance(near, 0) > distance(level, 0) {
				t.Fatal(level, q, near, e)
			}
			value(t, near, q, n, api.OK)
		}
	}
}

// TestWhatFollows holds values against those of other sides, levels and quantisers.
func TestWhatFollows(t *testing.T) {
	at := func(level, q int) int {
		n, e := quant.Value(level, q)
		if e != api.OK {
			t.Fatal(level, q, e)
		}
		return n
	}
	for q := 1; q <= 31; q++ {
		for level := -127; level <= 127; level++ {
			n := at(level, q)
			if n%2 == 0 && n != 0 && n != -2048 {
				t.Fatal(level, q, n, "is even")
			}
			if n < -2048 || n > 2047 || (n < 0) != (level < 0) || (n > 0) != (level > 0) {
				t.Fatal(level, q, n, "lies wrong")
			}
			// Of 44 by 23 the limit is met, and not passed: the words of a value have the other side's value there, too.
			other := -n
			if n == 2047 && !(level == 44 && q == 23) {
				other = -2048
			}
			if level > 0 && at(-level, q) != other {
				t.Fatal(level, q, n, at(-level, q), "is not the other side's")
			}
			if level < 127 && at(level+1, q) <= n && n != 2047 && at(level+1, q) != -2048 {
				t.Fatal(level, q, n, "does not rise with levels")
			}
			if level > 0 && q < 31 && at(level, q+1) <= n && n != 2047 {
				t.Fatal(level, q, n, "does not rise with quantisers")
			}
		}
	}
}

// TestAnswersAreNew changes what was answered, and its spare room: neither what was handed in nor a later answer changes.
func TestAnswersAreNew(t *testing.T) {
	levels := append(make([]int, 0, 80), full(1)...)
	for range 3 {
		a, _ := quant.Inter(levels, 3)
		b, _ := quant.Intra(levels, 3, 255)
		if !slices.Equal(a, full(9)) || !slices.Equal(b, append([]int{1024}, full(9)[1:]...)) {
			t.Fatal(a, b)
		}
		for _, l := range [][]int{a[:cap(a)], b[:cap(b)]} {
			for i := range l {
				l[i] = 99
			}
		}
		if !slices.Equal(levels, full(1)) {
			t.Fatal("what was handed in was changed", levels)
		}
		for _, n := range levels[64:cap(levels)] {
			if n != 0 {
				t.Fatal("spare room was written")
			}
		}
	}
}

// TestHandedInIsNotKept changes what was handed in: what was answered stays.
func TestHandedInIsNotKept(t *testing.T) {
	levels := full(1)
	a, _ := quant.Inter(levels, 3)
	b, _ := quant.Intra(levels, 3, 1)
	for i := range levels {
		levels[i] = 7
	}
	if !slices.Equal(a, full(9)) || !slices.Equal(b, append([]int{8}, full(9)[1:]...)) {
		t.Error("answers changed", a, b)
	}
}

// TestSpareRoomIsNotRead hands pieces of longer lists: what stands behind them does not matter.
func TestSpareRoomIsNotRead(t *testing.T) {
	long := append(full(1), 500, 500)
	inter(t, long[:64], 3, full(9), api.OK)
	intra(t, long[:64], 3, 255, append([]int{1024}, full(9)[1:]...), api.OK)
	inter(t, long[:63], 3, nil, api.ErrArg)
	inter(t, long[1:65], 3, nil, api.ErrRange)
	if long[64] != 500 || long[65] != 500 {
		t.Error("what stands behind was changed")
	}
}

// TestAnswersStay asks again and again, also for wrong things: no call tells on another one.
func TestAnswersStay(t *testing.T) {
	for q := 1; q <= 31; q++ {
		value(t, 1, q, plainValue(1, q), api.OK)
		value(t, 128, q, 0, api.ErrRange)
		intra(t, full(1), q, 128, nil, api.ErrLevel)
		inter(t, full(1), q, full(plainValue(1, q)), api.OK)
		inter(t, full(1), 0, nil, api.ErrRange)
		nearest(t, 5, 32-q, plainNearest(5, 32-q), api.OK)
		nearest(t, 2048, 1, 0, api.ErrRange)
		dc(t, 255, 1024, api.OK)
	}
}
