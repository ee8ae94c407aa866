package loop_test

import (
	"bytes"
	"math"
	"slices"
	"testing"

	"praxinoscope/api"
	"praxinoscope/loop"
)

// edge is how far from 0 a number of a row may lie.
const edge = 1 << 40

// chance is a row of numbers that look like chance and are always the same.
type chance uint64

func (c *chance) below(n int) int {
	*c = *c*6364136223846793005 + 1442695040888963407
	return int(uint64(*c) >> 13 % uint64(n))
}

// row tells a row of numbers that lie at most so far from 0.
func (c *chance) row(far int) []int {
	l := make([]int, 8)
	for i := range l {
		l[i] = c.below(2*far+1) - far
	}
	return l
}

// block tells a block of samples from low to high.
func (c *chance) block(low, high int) []byte {
	b := make([]byte, 64)
	for i := range b {
		b[i] = byte(low + c.below(high-low+1))
	}
	return b
}

// harsh tells a block of samples that are either the one or the other.
func (c *chance) harsh(one, other byte) []byte {
	b := make([]byte, 64)
	for i := range b {
		b[i] = []byte{one, other}[c.below(2)]
	}
	return b
}

// blocks tells many blocks of chance: of all samples, of few shades, dark, light, and of two samples alone.
func (c *chance) blocks(many int) [][]byte {
	var l [][]byte
	for range many {
		low := c.below(256)
		l = append(l, c.block(0, 255), c.block(low, low+c.below(256-low)), c.block(0, 3), c.block(252, 255), c.harsh(0, 255), c.harsh(byte(c.below(256)), byte(c.below(256))))
	}
	return l
}

// noNumbers tells what is no number of a row: the nearest ones, and very large ones, whose last 8, 16, 32 bits or whose multiples some may take for small ones.
func noNumbers() []int {
	return []int{
		edge + 1, -edge - 1, edge + 2, -edge - 2, 2 * edge, -2 * edge, 1<<48 + 5, -1<<48 + 5, 1<<56 + 7, 1 << 61, -1 << 61, 1 << 62, -1 << 62,
		math.MaxInt, math.MaxInt - 1, math.MaxInt / 2, math.MaxInt / 4, math.MinInt, math.MinInt + 1, math.MinInt / 2, math.MinInt / 4,
	}
}

// full tells so many of one thing.
func full[T any](many int, x T) []T {
	return slices.Repeat([]T{x}, many)
}

// with tells so many of one thing, but at one place.
func with[T any](many int, all T, place int, x T) []T {
	l := full(many, all)
	l[place] = x
	return l
}

// plainRow softens a row by the words of the chapter.
func plainRow(l []int) []int {
	return []int{
		4 * l[0],
		l[0] + 2*l[1] + l[2],
		l[1] + 2*l[2] + l[3],
		l[2] + 2*l[3] + l[4],
		l[3] + 2*l[4] + l[5],
		l[4] + 2*l[5] + l[6],
		l[5] + 2*l[6] + l[7],
		4 * l[7],
	}
}

// turned tells a block turned about its diagonal: rows are columns.
func turned[T any](b []T) []T {
	l := make([]T, 64)
	for i, x := range b {
		l[i%8*8+i/8] = x
	}
	return l
}

// across tells a block mirrored from the left to the right.
func across[T any](b []T) []T {
	l := make([]T, 64)
	for i, x := range b {
		l[i/8*8+7-i%8] = x
	}
	return l
}

// numbers tells samples as numbers.
func numbers(b []byte) []int {
	var l []int
	for _, x := range b {
		l = append(l, int(x))
	}
	return l
}

// plainRows softens each row of a block.
func plainRows(n []int) []int {
	var l []int
	for y := range 8 {
		l = append(l, plainRow(n[8*y:8*y+8])...)
	}
	return l
}

// divided adds 8 to each number, and divides it by 16, rounded down.
func divided(n []int) []byte {
	var b []byte
	for _, x := range n {
		b = append(b, byte(math.Floor(float64(x+8)/16)))
	}
	return b
}

// plainFilter filters a block by the words of the chapter: rows, then columns.
func plainFilter(b []byte) []byte {
	return divided(turned(plainRows(turned(plainRows(numbers(b))))))
}

// columnsFirst filters a block the other way round: columns, then rows.
func columnsFirst(b []byte) []byte {
	return divided(plainRows(turned(plainRows(turned(numbers(b))))))
}

// plainSample tells one filtered sample as the sum of nine, each with its weight, which are other ones at an edge.
func plainSample(b []byte, x, y int) byte {
	sum := 0
	for j := max(0, y-1); j <= min(7, y+1); j++ {
		for i := max(0, x-1); i <= min(7, x+1); i++ {
			sum += weight(x, i) * weight(y, j) * int(b[8*j+i])
		}
	}
	return byte((sum + 8) >> 4)
}

// weight tells how often a place counts in what becomes of another one, in a row.
func weight(place, other int) int {
	switch {
	case place == 0 || place == 7:
		if place == other {
			return 4
		}
		return 0
	case place == other:
		return 2
	}
	return 1
}

// soften looks whether Soften answers just this, and leaves the row.
func soften(t *testing.T, l, want []int, err api.Errno) {
	t.Helper()
	was := slices.Clone(l)
	got, e := loop.Soften(l)
	if e != err || !slices.Equal(got, want) || err != api.OK && got != nil {
		t.Fatalf("Soften(%d): %d, %d, not %d, %d", l, got, e, want, err)
	}
	if !slices.Equal(l, was) {
		t.Fatalf("Soften(%d) left %d", was, l)
	}
}

// filter looks whether Filter answers just this, and leaves the block.
func filter(t *testing.T, b, want []byte, err api.Errno) {
	t.Helper()
	was := slices.Clone(b)
	got, e := loop.Filter(b)
	if e != err || !slices.Equal(got, want) || err != api.OK && got != nil {
		t.Fatalf("Filter(%d): %d, %d, not %d, %d", b, got, e, want, err)
	}
	if !slices.Equal(b, was) {
		t.Fatalf("Filter(%d) left %d", was, b)
	}
}

// filtered tells what a block is filtered to.
func filtered(t *testing.T, b []byte) []byte {
	t.Helper()
	got, e := loop.Filter(b)
	if e != api.OK || len(got) != 64 {
		t.Fatal(b, got, e)
	}
	return got
}

// softRows tells what Soften makes of each row of a block.
func softRows(t *testing.T, n []int) []int {
	t.Helper()
	var all []int
	for y := range 8 {
		l, e := loop.Soften(n[8*y : 8*y+8])
		if e != api.OK || len(l) != 8 {
			t.Fatal(n, l, e)
		}
		all = append(all, l...)
	}
	return all
}

func TestExamples(t *testing.T) {
	soften(t, []int{4, 8, 4, 0, 0, 0, 0, 16}, []int{16, 24, 16, 4, 0, 0, 16, 64}, api.OK)
	soften(t, []int{1, 2, 3}, nil, api.ErrArg)
	filter(t, full[byte](64, 9), full[byte](64, 9), api.OK)
	corner := with[byte](64, 0, 0, 16)
	corner[1], corner[8], corner[9] = 4, 4, 1
	filter(t, with[byte](64, 0, 0, 16), corner, api.OK)
	inside := with[byte](64, 0, 9, 4)
	inside[10], inside[17], inside[18] = 2, 2, 1
	filter(t, with[byte](64, 0, 9, 16), inside, api.OK)
	filter(t, []byte{1, 2, 3}, nil, api.ErrArg)
}

// TestRows softens rows by hand: positive and negative numbers, noughts, rising and falling ones.
func TestRows(t *testing.T) {
	for _, x := range [][2][]int{
		{{0, 0, 0, 0, 0, 0, 0, 0}, {0, 0, 0, 0, 0, 0, 0, 0}},
		{{1, 1, 1, 1, 1, 1, 1, 1}, {4, 4, 4, 4, 4, 4, 4, 4}},
		{{-3, -3, -3, -3, -3, -3, -3, -3}, {-12, -12, -12, -12, -12, -12, -12, -12}},
		{{1, 2, 3, 4, 5, 6, 7, 8}, {4, 8, 12, 16, 20, 24, 28, 32}},
		{{8, 7, 6, 5, 4, 3, 2, 1}, {32, 28, 24, 20, 16, 12, 8, 4}},
		{{1, -1, 1, -1, 1, -1, 1, -1}, {4, 0, 0, 0, 0, 0, 0, -4}},
		{{1, 10, 100, 1000, 10000, 100000, 1000000, 10000000}, {4, 121, 1210, 12100, 121000, 1210000, 12100000, 40000000}},
		{{-5, 0, 0, 7, 0, 0, 0, -1}, {-20, -5, 7, 14, 7, 0, -1, -4}},
		{{255, 0, 255, 0, 0, 255, 255, 0}, {1020, 510, 510, 255, 255, 765, 765, 0}},
	} {
		soften(t, x[0], x[1], api.OK)
	}
}

// TestRowsOfOne hands rows of which one number differs, at each place.
func TestRowsOfOne(t *testing.T) {
	for place := range 8 {
		for _, n := range []int{1, -1, 2, 3, -7, 255, 1000, -1 << 20, 1<<32 + 1, edge - 1, 1 - edge, edge, -edge} {
			want := make([]int, 8)
			want[place] = 2 * n
			if place > 1 {
				want[place-1] = n
			}
			if place < 6 {
				want[place+1] = n
			}
			if place == 0 || place == 7 {
				want[place] = 4 * n
			}
			soften(t, with(8, 0, place, n), want, api.OK)
			for _, all := range []int{1, -4, 255, edge, -edge} {
				l := with(8, all, place, n)
				soften(t, l, plainRow(l), api.OK)
			}
		}
	}
}

// TestEdgesOfARow takes the first and the last number four times, whatever stands beside them.
func TestEdgesOfARow(t *testing.T) {
	c := chance(1)
	for _, n := range []int{0, 1, -1, 17, -1000, edge, -edge} {
		for range 50 {
			l := c.row(1 << c.below(41))
			l[0], l[7] = n, -n
			got, e := loop.Soften(l)
			if e != api.OK || len(got) != 8 || got[0] != 4*n || got[7] != -4*n {
				t.Fatal(l, got, e)
			}
		}
	}
}

// TestFarthestRows hands rows of the farthest numbers, everywhere and in turn: their sums are not cut.
func TestFarthestRows(t *testing.T) {
	for _, n := range []int{edge, -edge, edge - 1, 1 - edge} {
		soften(t, full(8, n), full(8, 4*n), api.OK)
		soften(t, []int{n, -n, n, -n, n, -n, n, -n}, []int{4 * n, 0, 0, 0, 0, 0, 0, -4 * n}, api.OK)
		soften(t, []int{n, n, -n, -n, n, n, -n, -n}, []int{4 * n, 2 * n, -2 * n, -2 * n, 2 * n, 2 * n, -2 * n, -4 * n}, api.OK)
	}
	for bits := range 256 {
		l := make([]int, 8)
		for i := range l {
			l[i] = edge * (1 - bits>>i&1*2)
		}
		soften(t, l, plainRow(l), api.OK)
	}
}

// TestRowsByChance holds rows of chance, small and great ones, against the chapter's words.
func TestRowsByChance(t *testing.T) {
	c := chance(2)
	for range 20000 {
		l := c.row(1 << c.below(41))
		soften(t, l, plainRow(l), api.OK)
	}
}

// TestSoftenRefuses puts what is no number of a row at each place, and everywhere.
func TestSoftenRefuses(t *testing.T) {
	for _, n := range noNumbers() {
		for place := range 8 {
			for _, all := range []int{0, 1, -1, edge, -edge} {
				soften(t, with(8, all, place, n), nil, api.ErrArg)
			}
		}
		soften(t, full(8, n), nil, api.ErrArg)
	}
}

// TestRowsOfOtherLengths hands rows that are not eight; what stands in them does not matter.
func TestRowsOfOtherLengths(t *testing.T) {
	soften(t, nil, nil, api.ErrArg)
	soften(t, []int{}, nil, api.ErrArg)
	soften(t, make([]int, 7, 8), nil, api.ErrArg)
	soften(t, make([]int, 0, 8), nil, api.ErrArg)
	for _, many := range []int{0, 1, 2, 3, 4, 5, 6, 7, 9, 10, 15, 16, 17, 63, 64, 65, 256, 264, 4096, 65544} {
		for _, n := range []int{0, 1, edge, -edge, edge + 1, -edge - 1, math.MinInt, math.MaxInt} {
			soften(t, full(many, n), nil, api.ErrArg)
		}
	}
}

// TestEvenBlocks hands blocks of one sample all over, each of 256: they stay.
func TestEvenBlocks(t *testing.T) {
	for n := range 256 {
		filter(t, full(64, byte(n)), full(64, byte(n)), api.OK)
	}
}

// TestBlocksOfOne hands blocks of which one sample differs, at each place.
func TestBlocksOfOne(t *testing.T) {
	for place := range 64 {
		for _, all := range []byte{0, 1, 9, 127, 128, 254, 255} {
			for _, n := range []byte{0, 1, 2, 3, 4, 7, 8, 15, 16, 31, 100, 128, 254, 255} {
				b := with(64, all, place, n)
				filter(t, b, plainFilter(b), api.OK)
			}
		}
	}
}

// TestWeights tells by one sample of 16 how often it counts in each of 64, by hand at some places.
func TestWeights(t *testing.T) {
	for place := range 64 {
		want := make([]byte, 64)
		for i := range want {
			if near(i%8, place%8) && near(i/8, place/8) {
				want[i] = byte(weight(i%8, place%8) * weight(i/8, place/8))
			}
		}
		filter(t, with[byte](64, 0, place, 16), want, api.OK)
	}
	for place, want := range map[int]map[int]byte{
		0:  {0: 16, 1: 4, 8: 4, 9: 1},
		7:  {7: 16, 6: 4, 15: 4, 14: 1},
		56: {56: 16, 57: 4, 48: 4, 49: 1},
		63: {63: 16, 62: 4, 55: 4, 54: 1},
		1:  {1: 8, 2: 4, 9: 2, 10: 1},
		3:  {2: 4, 3: 8, 4: 4, 10: 1, 11: 2, 12: 1},
		24: {16: 4, 24: 8, 32: 4, 17: 1, 25: 2, 33: 1},
		39: {31: 4, 39: 8, 47: 4, 30: 1, 38: 2, 46: 1},
		60: {59: 4, 60: 8, 61: 4, 51: 1, 52: 2, 53: 1},
		27: {18: 1, 19: 2, 20: 1, 26: 2, 27: 4, 28: 2, 34: 1, 35: 2, 36: 1},
		54: {45: 1, 46: 2, 53: 2, 54: 4},
	} {
		b := make([]byte, 64)
		for i, n := range want {
			b[i] = n
		}
		filter(t, with[byte](64, 0, place, 16), b, api.OK)
	}
}

// near tells whether two places of a row are the same, or touch.
func near(a, b int) bool {
	return a-b >= -1 && a-b <= 1
}

// TestRounding hands one sample whose sixteenths are less than a half, a half, and more.
func TestRounding(t *testing.T) {
	for n := range 256 {
		got := filtered(t, with[byte](64, 0, 27, byte(n)))
		for i, times := range map[int]int{18: 1, 19: 2, 27: 4} {
			if want := n * times / 16; n*times%16 >= 8 && int(got[i]) != want+1 || n*times%16 < 8 && int(got[i]) != want {
				t.Fatal(n, i, got[i])
			}
		}
	}
	for n, want := range map[byte][3]byte{7: {0, 1, 2}, 8: {1, 1, 2}, 3: {0, 0, 1}, 4: {0, 1, 1}, 2: {0, 0, 1}, 1: {0, 0, 0}, 24: {2, 3, 6}, 255: {16, 32, 64}} {
		got := filtered(t, with[byte](64, 0, 27, n))
		if got[18] != want[0] || got[19] != want[1] || got[27] != want[2] {
			t.Error(n, got)
		}
	}
}

// TestRoundedOnce hands blocks of which rows that were divided ahead of the columns would come to other samples.
func TestRoundedOnce(t *testing.T) {
	// Above and below a 3 stand 6 sixteenths, which are none; its row alone would be 6 quarters, rounded up to 2, and of these 2 quarters one.
	want := with[byte](64, 0, 27, 1)
	filter(t, with[byte](64, 0, 27, 3), want, api.OK)
	// To the left of two 3s stand 9 sixteenths, which are one; each row alone would be 3 quarters, rounded down to nought.
	b := with[byte](64, 0, 27, 3)
	b[35] = 3
	if got := filtered(t, b); got[26] != 1 || got[34] != 1 || got[25] != 0 {
		t.Error(got)
	}
}

// TestBlocksOfNoughtAnd255 hands blocks of the darkest and the lightest sample: halves, stripes, chequers, frames, and by chance.
func TestBlocksOfNoughtAnd255(t *testing.T) {
	for _, light := range []func(x, y int) bool{
		func(x, y int) bool { return x < 4 },
		func(x, y int) bool { return y < 4 },
		func(x, y int) bool { return x%2 == 0 },
		func(x, y int) bool { return y%2 == 0 },
		func(x, y int) bool { return (x+y)%2 == 0 },
		func(x, y int) bool { return x == 0 || x == 7 || y == 0 || y == 7 },
		func(x, y int) bool { return x == 0 },
		func(x, y int) bool { return y == 7 },
		func(x, y int) bool { return x == y },
		func(x, y int) bool { return x+y == 7 },
		func(x, y int) bool { return x+y < 7 },
	} {
		b, other := make([]byte, 64), full[byte](64, 255)
		for i := range b {
			if light(i%8, i/8) {
				b[i], other[i] = 255, 0
			}
		}
		filter(t, b, plainFilter(b), api.OK)
		filter(t, other, plainFilter(other), api.OK)
	}
	c := chance(3)
	for range 2000 {
		b := c.harsh(0, 255)
		filter(t, b, plainFilter(b), api.OK)
	}
	halves := slices.Repeat([]byte{255, 255, 255, 255, 0, 0, 0, 0}, 8)
	filter(t, halves, slices.Repeat([]byte{255, 255, 255, 191, 64, 0, 0, 0}, 8), api.OK)
	stripes := slices.Repeat([]byte{255, 0, 255, 0, 255, 0, 255, 0}, 8)
	filter(t, stripes, slices.Repeat([]byte{255, 128, 128, 128, 128, 128, 128, 0}, 8), api.OK)
	filter(t, turned(stripes), turned(slices.Repeat([]byte{255, 128, 128, 128, 128, 128, 128, 0}, 8)), api.OK)
}

// TestBlocksByChance holds all 64 samples of blocks of chance against the chapter's words, and against a sum of nine.
func TestBlocksByChance(t *testing.T) {
	c := chance(4)
	for _, b := range c.blocks(1500) {
		want := plainFilter(b)
		filter(t, b, want, api.OK)
		for i, n := range want {
			if n != plainSample(b, i%8, i/8) {
				t.Fatal("the words do not agree", b, i, n)
			}
		}
	}
}

// TestBlocksOfOtherLengths hands blocks that are not 64; what stands in them does not matter.
func TestBlocksOfOtherLengths(t *testing.T) {
	filter(t, nil, nil, api.ErrArg)
	filter(t, []byte{}, nil, api.ErrArg)
	filter(t, make([]byte, 63, 64), nil, api.ErrArg)
	filter(t, make([]byte, 0, 64), nil, api.ErrArg)
	for _, many := range []int{0, 1, 2, 3, 7, 8, 9, 16, 32, 56, 62, 63, 65, 66, 72, 127, 128, 256, 320, 384, 4096, 65600} {
		for _, n := range []byte{0, 1, 128, 255} {
			filter(t, full(many, n), nil, api.ErrArg)
		}
	}
}

// TestEitherOrder filters by Soften alone: rows first, and columns first.
func TestEitherOrder(t *testing.T) {
	c := chance(5)
	for _, b := range c.blocks(300) {
		rowsFirst := turned(softRows(t, turned(softRows(t, numbers(b)))))
		columns := softRows(t, turned(softRows(t, turned(numbers(b)))))
		if !slices.Equal(rowsFirst, columns) {
			t.Fatal(b, rowsFirst, columns)
		}
		filter(t, b, divided(rowsFirst), api.OK)
		filter(t, b, columnsFirst(b), api.OK)
	}
}

// TestEvenColumns softens rows of one number all over, which are taken four times, and filters blocks whose columns are even.
func TestEvenColumns(t *testing.T) {
	for _, n := range []int{0, 1, -1, 77, -255, edge, -edge} {
		soften(t, full(8, n), full(8, 4*n), api.OK)
	}
	c := chance(6)
	for range 300 {
		// Of even columns each filtered row is the same, and a softened one, divided by 4.
		row := c.block(0, 255)[:8]
		got := filtered(t, slices.Repeat(row, 8))
		for y := range 8 {
			for x := range 8 {
				if want := byte((plainRow(numbers(row))[x] + 2) >> 2); got[8*y+x] != want {
					t.Fatal(row, x, y, got)
				}
			}
		}
	}
}

// TestCorners leaves the four corners, whatever stands beside them.
func TestCorners(t *testing.T) {
	c := chance(7)
	for _, b := range c.blocks(300) {
		got := filtered(t, b)
		for _, i := range []int{0, 7, 56, 63} {
			if got[i] != b[i] {
				t.Fatal(b, got, i)
			}
		}
	}
}

// TestEdges filters what lies between two corners along its edge alone, whatever stands inside.
func TestEdges(t *testing.T) {
	c := chance(8)
	for _, b := range c.blocks(300) {
		got := filtered(t, b)
		for i := 1; i < 7; i++ {
			for _, x := range [][2]int{{i, 1}, {56 + i, 1}, {8 * i, 8}, {8*i + 7, 8}} {
				at, step := x[0], x[1]
				if want := (int(b[at-step]) + 2*int(b[at]) + int(b[at+step]) + 2) / 4; int(got[at]) != want {
					t.Fatal(b, got, at, want)
				}
			}
		}
	}
}

// TestBetween holds each sample between the least and the greatest one of those that touch it, and itself.
func TestBetween(t *testing.T) {
	c := chance(9)
	for _, b := range c.blocks(300) {
		got := filtered(t, b)
		for i, n := range got {
			low, high := byte(255), byte(0)
			for j, x := range b {
				if near(i%8, j%8) && near(i/8, j/8) {
					low, high = min(low, x), max(high, x)
				}
			}
			if n < low || n > high {
				t.Fatal(b, i, n, low, high)
			}
		}
	}
}

// TestTurnedAndMirrored filters blocks turned about their diagonal, mirrored, and both: all eight ways to lay them.
func TestTurnedAndMirrored(t *testing.T) {
	c := chance(10)
	for _, b := range c.blocks(200) {
		was := filtered(t, b)
		for range 4 {
			b, was = turned(b), turned(was)
			filter(t, b, was, api.OK)
			b, was = across(b), across(was)
			filter(t, b, was, api.OK)
		}
		filter(t, turned(across(turned(b))), turned(across(turned(was))), api.OK)
	}
}

// TestMirroredRows softens rows from behind, and on the other side of 0.
func TestMirroredRows(t *testing.T) {
	c := chance(11)
	for range 2000 {
		l := c.row(1 << c.below(41))
		want := plainRow(l)
		slices.Reverse(l)
		slices.Reverse(want)
		soften(t, l, want, api.OK)
		for i := range l {
			l[i], want[i] = -l[i], -want[i]
		}
		soften(t, l, want, api.OK)
	}
}

// TestLighter makes blocks lighter all over by each number by which none is cut.
func TestLighter(t *testing.T) {
	c := chance(12)
	for range 60 {
		b := c.block(0, c.below(256))
		want := filtered(t, b)
		for slices.Max(b) < 255 {
			for i := range b {
				b[i]++
				want[i]++
			}
			filter(t, b, want, api.OK)
		}
	}
}

// TestAnswersAreNew changes what was answered, and its spare room: neither what was handed in nor a later answer changes.
func TestAnswersAreNew(t *testing.T) {
	l := append(make([]int, 0, 20), 4, 8, 4, 0, 0, 0, 0, 16)
	b := append(make([]byte, 0, 80), full[byte](64, 9)...)
	for range 3 {
		row, _ := loop.Soften(l)
		block, _ := loop.Filter(b)
		if !slices.Equal(row, []int{16, 24, 16, 4, 0, 0, 16, 64}) || !slices.Equal(block, full[byte](64, 9)) {
			t.Fatal(row, block)
		}
		row, block = row[:cap(row)], block[:cap(block)]
		for i := range row {
			row[i] = 99
		}
		for i := range block {
			block[i] = 99
		}
		if !slices.Equal(l, []int{4, 8, 4, 0, 0, 0, 0, 16}) || !slices.Equal(b, full[byte](64, 9)) {
			t.Fatal("what was handed in was changed", l, b)
		}
		if !slices.Equal(l[8:cap(l)], make([]int, cap(l)-8)) || !bytes.Equal(b[64:cap(b)], make([]byte, cap(b)-64)) {
			t.Fatal("spare room was written")
		}
	}
}

// TestHandedInIsNotKept changes what was handed in: what was answered stays.
func TestHandedInIsNotKept(t *testing.T) {
	l, b := []int{4, 8, 4, 0, 0, 0, 0, 16}, full[byte](64, 9)
	row, _ := loop.Soften(l)
	block, _ := loop.Filter(b)
	clear(l)
	clear(b)
	if !slices.Equal(row, []int{16, 24, 16, 4, 0, 0, 16, 64}) || !slices.Equal(block, full[byte](64, 9)) {
		t.Error("answers changed", row, block)
	}
}

// TestSpareRoomIsNotRead hands pieces of longer lists: what stands behind them does not matter.
func TestSpareRoomIsNotRead(t *testing.T) {
	l := append(full(8, 1), edge+1, edge+1)
	soften(t, l[:8], full(8, 4), api.OK)
	soften(t, l[:7], nil, api.ErrArg)
	soften(t, l[1:9], nil, api.ErrArg)
	soften(t, l[:9], nil, api.ErrArg)
	b := append(full[byte](64, 9), 200, 201)
	filter(t, b[:64], full[byte](64, 9), api.OK)
	filter(t, b[:63], nil, api.ErrArg)
	filter(t, b[:65], nil, api.ErrArg)
	filter(t, b[1:65], plainFilter(b[1:65]), api.OK)
	if l[8] != edge+1 || l[9] != edge+1 || b[64] != 200 || b[65] != 201 {
		t.Error("what stands behind was changed")
	}
}

// TestAnswersStay asks again and again, also for wrong things: no call tells on another one.
func TestAnswersStay(t *testing.T) {
	for i := range 200 {
		soften(t, with(8, 0, i%8, edge+1), nil, api.ErrArg)
		soften(t, with(8, i, i%8, -i), plainRow(with(8, i, i%8, -i)), api.OK)
		soften(t, full(7, i), nil, api.ErrArg)
		filter(t, full(65, byte(i)), nil, api.ErrArg)
		b := with(64, byte(i), i%64, byte(255-i))
		filter(t, b, plainFilter(b), api.OK)
		filter(t, full(63, byte(i)), nil, api.ErrArg)
	}
}

func BenchmarkFilter(b *testing.B) {
	c := chance(13)
	block := c.block(0, 255)
	for b.Loop() {
		loop.Filter(block)
	}
}
