package pattern_test

import (
	"math"
	"slices"
	"testing"

	"praxinoscope/api"
	"praxinoscope/pattern"
)

// weights tells what each block stands for, by the document's words, the first one's first.
func weights() []int {
	return []int{32, 16, 8, 4, 2, 1}
}

// said tells the blocks of a pattern, by taking from it what each block stands for.
func said(number int) []int {
	var all []int
	for i, weight := range weights() {
		if number >= weight {
			number -= weight
			all = append(all, i+1)
		}
	}
	return all
}

// strangers are numbers that are neither patterns nor blocks; their lowest bits may be those of patterns.
func strangers() []int {
	return []int{0, -1, -2, -5, -6, -7, -32, -63, -64, -65, 64, 65, 95, 96, 127, 128, 255, 256, 257, 319, 65536 + 1, 65536 + 63, 1 << 32, 1<<32 + 1, 1<<32 + 6, 1<<32 + 63, -1 << 32, -1<<32 + 1, 1<<32 - 1, math.MaxInt32, math.MinInt32, math.MaxInt, math.MaxInt - 1, math.MinInt, math.MinInt + 1, math.MinInt + 6, math.MinInt + 63}
}

// has looks whether Has answers just this.
func has(t *testing.T, number, block int, want bool) {
	t.Helper()
	if h := pattern.Has(number, block); h != want {
		t.Fatalf("Has(%d, %d): %t, not %t", number, block, h, want)
	}
}

// count looks whether Count answers just this.
func count(t *testing.T, number, want int) {
	t.Helper()
	if n := pattern.Count(number); n != want {
		t.Fatalf("Count(%d): %d, not %d", number, n, want)
	}
}

func TestBlockExamples(t *testing.T) {
	has(t, 32, 1, true)
	has(t, 32, 2, false)
	has(t, 1, 6, true)
	has(t, 63, 7, false)
	has(t, 64, 1, false)
	count(t, 60, 4)
	count(t, 0, 0)
}

// TestSingleBlocks asks for the patterns that say one block alone, and for those that say all but one.
func TestSingleBlocks(t *testing.T) {
	for i, weight := range weights() {
		for block := 1; block <= 6; block++ {
			has(t, weight, block, block == i+1)
			has(t, 63-weight, block, block != i+1)
		}
		count(t, weight, 1)
		count(t, 63-weight, 5)
	}
}

// TestBlocksOfAll asks for each block of each pattern, and for blocks that there are not.
func TestBlocksOfAll(t *testing.T) {
	for number := 1; number <= 63; number++ {
		blocks := said(number)
		for block := -70; block <= 70; block++ {
			has(t, number, block, slices.Contains(blocks, block))
		}
		count(t, number, len(blocks))
	}
}

// TestEdgesOfBlocks asks for patterns and blocks at both ends, and just behind them.
func TestEdgesOfBlocks(t *testing.T) {
	for _, x := range []struct {
		number, block int
		want          bool
	}{
		{0, 0, false}, {0, 1, false}, {0, 6, false}, {0, 7, false},
		{1, 0, false}, {1, 1, false}, {1, 5, false}, {1, 6, true}, {1, 7, false},
		{62, 6, false}, {62, 5, true}, {62, 1, true},
		{63, 0, false}, {63, 1, true}, {63, 6, true}, {63, 7, false}, {63, -1, false},
		{64, 0, false}, {64, 1, false}, {64, 6, false}, {64, 7, false}, {65, 6, false}, {127, 1, false}, {127, 6, false},
		{-1, 0, false}, {-1, 1, false}, {-1, 6, false}, {-1, 7, false}, {-63, 1, false},
	} {
		has(t, x.number, x.block, x.want)
	}
	count(t, 1, 1)
	count(t, 62, 5)
	count(t, 63, 6)
	count(t, 64, 0)
	count(t, 127, 0)
	count(t, -1, 0)
}

// TestStrangersSayNothing asks for blocks of what is no pattern, and for what is no block.
func TestStrangersSayNothing(t *testing.T) {
	for _, x := range strangers() {
		count(t, x, 0)
		for n := -2; n <= 66; n++ {
			has(t, x, n, false)
			has(t, n, x, false)
		}
		for _, y := range strangers() {
			has(t, x, y, false)
		}
	}
	for number := -400; number <= 400; number++ {
		if number < 1 || number > 63 {
			count(t, number, 0)
			for block := range 8 {
				has(t, number, block, false)
			}
		}
	}
}

// TestPatternIsASum adds what the blocks stand for that a pattern says.
func TestPatternIsASum(t *testing.T) {
	for number := 1; number <= 63; number++ {
		sum, many := 0, 0
		for i, weight := range weights() {
			if pattern.Has(number, i+1) {
				sum += weight
				many++
			}
		}
		if sum != number || many != pattern.Count(number) {
			t.Error("the blocks of", number, "stand for", sum, "and are", many, "not", pattern.Count(number))
		}
	}
}

// TestBlocksStay asks again and again, also for wrong things: no call tells on another one.
func TestBlocksStay(t *testing.T) {
	c := chance(17)
	for range 2000 {
		number, block := c.below(70)-3, c.below(10)-1
		is := number >= 1 && number <= 63
		has(t, number, block, is && slices.Contains(said(number), block))
		if is {
			count(t, number, len(said(number)))
		} else {
			count(t, number, 0)
			put(t, number, "", api.ErrUnknown)
		}
	}
}
