package cosine_test

import (
	"math"
	"slices"
	"testing"

	"praxinoscope/api"
	"praxinoscope/cosine"
)

const (
	far   = 1 << 40
	whole = 1 << 24
	half  = 1 << 23
)

// chance is a row of numbers that look like chance and are always the same.
type chance uint64

func (c *chance) below(n int) int {
	*c = *c*6364136223846793005 + 1442695040888963407
	return int(uint64(*c) >> 13 % uint64(n))
}

// from tells a number from low to high.
func (c *chance) from(low, high int) int {
	return low + c.below(high-low+1)
}

// of tells one of a list.
func (c *chance) of(l []int) int {
	return l[c.below(len(l))]
}

// line tells a line of numbers that lie at most so far from 0.
func (c *chance) line(far int) []int {
	l := make([]int, 8)
	for i := range l {
		l[i] = c.from(-far, far)
	}
	return l
}

// block tells a block of numbers of chance, of which so many of a hundred are not 0.
func (c *chance) block(dense, low, high int) []int {
	b := make([]int, 64)
	for i := range b {
		if c.below(100) < dense {
			b[i] = c.from(low, high)
		}
	}
	return b
}

// great tells very large numbers, on both sides; the last eight, 16 or 32 bits of some would be a small one.
func great() []int {
	return []int{1<<41 + 5, -1<<41 + 5, 1 << 48, -1 << 48, 1<<56 + 7, 1 << 62, -1 << 62, math.MaxInt, math.MaxInt - 1, math.MaxInt / 2, math.MinInt, math.MinInt + 1, math.MinInt / 2}
}

// noPlaces tells what is neither a u nor an x.
func noPlaces() []int {
	return append([]int{-1, 8, -2, 9, -7, -8, 15, 16, 31, 32, 39, 64, -32, 255, 256, 257, -256, 1 << 16, 1<<32 + 1, -1 << 32, far}, great()...)
}

// noLines tells what is no number of a line.
func noLines() []int {
	return append([]int{far + 1, -far - 1, far + 2, -far - 2, 2 * far, -2 * far}, great()...)
}

// noBlocks tells what is no number of a block.
func noBlocks() []int {
	return append([]int{2048, -2049, 2049, -2050, 4095, 4096, 4097, -4095, -4096, 1 << 16, 1<<16 + 1, -1 << 16, 1 << 31, 1<<32 + 1, -1<<32 + 1, far, -far}, great()...)
}

// full tells so many of one number.
func full(many, n int) []int {
	return slices.Repeat([]int{n}, many)
}

// with tells so many of one number, but at one place.
func with(many, all, place, n int) []int {
	l := full(many, all)
	l[place] = n
	return l
}

// plainC tells c of k by the words of the chapter.
func plainC(k int) int {
	switch {
	case k < 9:
		return []int{2048, 2009, 1892, 1703, 1448, 1138, 784, 400, 0}[k]
	case k < 17:
		return -plainC(16 - k)
	}
	return plainC(32 - k)
}

// plainWeights tells, at [u][x], all weights by the words of the chapter.
func plainWeights() (w [8][8]int) {
	for u := range 8 {
		for x := range 8 {
			w[u][x] = 1448
			if u > 0 {
				w[u][x] = plainC((2*x + 1) * u % 32)
			}
		}
	}
	return w
}

// down tells a over b, rounded down.
func down(a, b int) int {
	n := a / b
	if n*b > a {
		n--
	}
	return n
}

// plainLine tells the sums of a line by the words of the chapter.
func plainLine(l []int) []int {
	w := plainWeights()
	sums := make([]int, 8)
	for x := range 8 {
		for u := range 8 {
			sums[x] += w[u][x] * l[u]
		}
	}
	return sums
}

// plainSums tells the sum of 64 products of each sample.
func plainSums(b []int) []int {
	w := plainWeights()
	sums := make([]int, 64)
	for y := range 8 {
		for x := range 8 {
			for v := range 8 {
				for u := range 8 {
					sums[8*y+x] += w[u][x] * w[v][y] * b[8*v+u]
				}
			}
		}
	}
	return sums
}

// plainInverse tells a block's samples by the words of the chapter.
func plainInverse(b []int) []int {
	l := plainSums(b)
	for i, sum := range l {
		l[i] = down(sum+half, whole)
	}
	return l
}

// weight looks whether Weight answers just this.
func weight(t *testing.T, u, x, want int, err api.Errno) {
	t.Helper()
	if n, e := cosine.Weight(u, x); n != want || e != err {
		t.Fatalf("Weight(%d, %d): %d, %d, not %d, %d", u, x, n, e, want, err)
	}
}

// line looks whether Line answers just this, and leaves the numbers.
func line(t *testing.T, l, want []int, err api.Errno) {
	t.Helper()
	was := slices.Clone(l)
	got, e := cosine.Line(l)
	if !slices.Equal(got, want) || e != err {
		t.Fatalf("Line(%v): %v, %d, not %v, %d", l, got, e, want, err)
	}
	if err != api.OK && got != nil {
		t.Fatalf("Line(%v): a list beside an error", l)
	}
	if !slices.Equal(l, was) {
		t.Fatalf("Line(%v) changed them: %v", was, l)
	}
}

// inverse looks whether Inverse answers just this, and leaves the block.
func inverse(t *testing.T, b, want []int, err api.Errno) {
	t.Helper()
	was := slices.Clone(b)
	got, e := cosine.Inverse(b)
	if !slices.Equal(got, want) || e != err {
		t.Fatalf("Inverse(%v): %v, %d, not %v, %d", b, got, e, want, err)
	}
	if err != api.OK && got != nil {
		t.Fatalf("Inverse(%v): a list beside an error", b)
	}
	if !slices.Equal(b, was) {
		t.Fatalf("Inverse(%v) changed it: %v", was, b)
	}
}

// samples tells what Inverse answers of a block that is one.
func samples(t *testing.T, b []int) []int {
	t.Helper()
	l, e := cosine.Inverse(b)
	if e != api.OK || len(l) != 64 {
		t.Fatalf("Inverse(%v): %v, %d", b, l, e)
	}
	return l
}

func TestExamples(t *testing.T) {
	weight(t, 0, 5, 1448, api.OK)
	weight(t, 1, 0, 2009, api.OK)
	weight(t, 1, 7, -2009, api.OK)
	weight(t, 2, 3, -1892, api.OK)
	weight(t, 4, 1, -1448, api.OK)
	weight(t, 8, 0, 0, api.ErrRange)
	line(t, []int{1, 0, 0, 0, 0, 0, 0, 0}, full(8, 1448), api.OK)
	line(t, []int{0, 1, 0, 0, 0, 0, 0, 0}, []int{2009, 1703, 1138, 400, -400, -1138, -1703, -2009}, api.OK)
	inverse(t, with(64, 0, 0, 8), full(64, 1), api.OK)
	inverse(t, with(64, 0, 0, 2032), full(64, 254), api.OK)
	inverse(t, with(64, 0, 0, -8), full(64, -1), api.OK)
	inverse(t, full(64, 0), full(64, 0), api.OK)
	inverse(t, []int{1, 2, 3}, nil, api.ErrArg)
	inverse(t, with(64, 0, 0, 2048), nil, api.ErrRange)
}

// TestWeights holds each weight against a list that was written by hand.
func TestWeights(t *testing.T) {
	for u, row := range [][]int{
		{1448, 1448, 1448, 1448, 1448, 1448, 1448, 1448},
		{2009, 1703, 1138, 400, -400, -1138, -1703, -2009},
		{1892, 784, -784, -1892, -1892, -784, 784, 1892},
		{1703, -400, -2009, -1138, 1138, 2009, 400, -1703},
		{1448, -1448, -1448, 1448, 1448, -1448, -1448, 1448},
		{1138, -2009, 400, 1703, -1703, -400, 2009, -1138},
		{784, -1892, 1892, -784, -784, 1892, -1892, 784},
		{400, -1138, 1703, -2009, 2009, -1703, 1138, -400},
	} {
		for x, want := range row {
			weight(t, u, x, want, api.OK)
		}
	}
}

// TestWeightsByWords holds each weight against the chapter's words, and against the cosine that it rounds.
func TestWeightsByWords(t *testing.T) {
	w := plainWeights()
	for u := range 8 {
		for x := range 8 {
			turn := math.Cos(float64((2*x+1)*u) * math.Pi / 16)
			if u == 0 {
				turn = math.Sqrt(0.5)
			}
			if w[u][x] != int(math.Round(2048*turn)) {
				t.Fatal("the words tell no cosine", u, x, w[u][x])
			}
			weight(t, u, x, w[u][x], api.OK)
		}
	}
}

func TestWeightRefuses(t *testing.T) {
	for _, n := range noPlaces() {
		for place := range 8 {
			weight(t, n, place, 0, api.ErrRange)
			weight(t, place, n, 0, api.ErrRange)
		}
		for _, m := range noPlaces() {
			weight(t, n, m, 0, api.ErrRange)
		}
	}
}

// TestLinesOfOne puts one number at each place of a line.
func TestLinesOfOne(t *testing.T) {
	w := plainWeights()
	for u := range 8 {
		for _, n := range []int{0, 1, -1, 2, 7, -1000, 2047, -2048, 1<<31 + 3, -1 << 32, far - 1, 1 - far, far, -far} {
			var want []int
			for x := range 8 {
				want = append(want, n*w[u][x])
			}
			line(t, with(8, 0, u, n), want, api.OK)
		}
	}
}

// TestLinesAtEdges hands lines of the farthest numbers, also of those signs by which the sum at a place is as far as it may be.
func TestLinesAtEdges(t *testing.T) {
	w := plainWeights()
	line(t, full(8, 0), full(8, 0), api.OK)
	line(t, full(8, far), plainLine(full(8, far)), api.OK)
	line(t, full(8, -far), plainLine(full(8, -far)), api.OK)
	for x := range 8 {
		for _, n := range []int{far, -far} {
			l, sum := full(8, n), 0
			for u := range l {
				if w[u][x] < 0 {
					l[u] = -n
				}
				sum += w[u][x] * l[u]
			}
			if sum != n*10822 {
				t.Fatal(x, n, sum, "is not the sum of all weights")
			}
			want := plainLine(l)
			if want[x] != sum {
				t.Fatal(x, n, want[x], sum)
			}
			line(t, l, want, api.OK)
		}
	}
}

// TestLinesByChance holds lines of chance, small and great ones, against plain sums.
func TestLinesByChance(t *testing.T) {
	c := chance(1)
	for range 20000 {
		l := c.line(1 << c.below(41))
		line(t, l, plainLine(l), api.OK)
	}
}

// TestLineRefuses puts what is no number of a line at each place.
func TestLineRefuses(t *testing.T) {
	for _, n := range noLines() {
		for place := range 8 {
			for _, all := range []int{0, 1, far, -far} {
				line(t, with(8, all, place, n), nil, api.ErrRange)
			}
		}
		line(t, full(8, n), nil, api.ErrRange)
	}
}

// TestLinesOfOtherLengths hands lines that are not eight; what stands in them does not matter.
func TestLinesOfOtherLengths(t *testing.T) {
	line(t, nil, nil, api.ErrArg)
	line(t, []int{}, nil, api.ErrArg)
	line(t, make([]int, 7, 8), nil, api.ErrArg)
	for _, many := range []int{0, 1, 2, 4, 6, 7, 9, 10, 15, 16, 63, 64, 65, 256, 264, 4096} {
		for _, n := range []int{0, 1, far, -far, far + 1, -far - 1, math.MinInt, math.MaxInt} {
			line(t, full(many, n), nil, api.ErrArg)
		}
	}
}

// TestBlocksOfOne puts one number at each place of a block: each sample is its product by two weights.
func TestBlocksOfOne(t *testing.T) {
	w := plainWeights()
	for v := range 8 {
		for u := range 8 {
			for _, n := range []int{1, -1, 2, -2, 3, -3, 4, -4, 5, -5, 8, -8, 100, -100, 1024, -1024, 2046, -2047, 2047, -2048} {
				var want []int
				for y := range 8 {
					for x := range 8 {
						want = append(want, down(w[u][x]*w[v][y]*n+half, whole))
					}
				}
				inverse(t, with(64, 0, 8*v+u, n), want, api.OK)
			}
		}
	}
}

// TestFlatBlocks tells the samples of each number at 0 alone, some of them reckoned by hand.
func TestFlatBlocks(t *testing.T) {
	for n := -2048; n <= 2047; n++ {
		inverse(t, with(64, 0, 0, n), full(64, down(1448*1448*n+half, whole)), api.OK)
	}
	for _, x := range [][2]int{{3, 0}, {4, 0}, {5, 1}, {-3, 0}, {-4, 0}, {-5, -1}, {12, 1}, {13, 2}, {-12, -1}, {-13, -2}, {1024, 128}, {2047, 256}, {-2048, -256}} {
		inverse(t, with(64, 0, 0, x[0]), full(64, x[1]), api.OK)
	}
}

// TestBlocksAtEdges hands blocks of the least and the most number everywhere, or everywhere but at one place.
func TestBlocksAtEdges(t *testing.T) {
	for _, n := range []int{2047, -2048} {
		for _, b := range [][]int{full(64, n), with(64, n, 0, 0), with(64, n, 0, -1-n), with(64, n, 63, -1-n), with(64, n, 7, 0), with(64, n, 56, 0)} {
			inverse(t, b, plainInverse(b), api.OK)
		}
	}
	most, least := samples(t, full(64, 2047)), samples(t, full(64, -2048))
	// All weights at x 0 come to 10,822; so by hand, and not cut:
	if most[0] != 14289 || least[0] != -14296 {
		t.Error(most[0], least[0])
	}
}

// TestFarthestSamples hands for each place the block whose sample there is as great, or as small, as one may be.
func TestFarthestSamples(t *testing.T) {
	w := plainWeights()
	for y := range 8 {
		for x := range 8 {
			for _, up := range []bool{true, false} {
				b := full(64, 2047)
				for i := range b {
					if (w[i%8][x]*w[i/8][y] < 0) == up {
						b[i] = -2048
					}
				}
				want := plainInverse(b)
				if n := want[8*y+x]; up && n < 14280 || !up && n > -14280 {
					t.Fatal(x, y, n, "is not far")
				}
				inverse(t, b, want, api.OK)
			}
		}
	}
}

// TestBlocksByChance holds blocks of chance, dense and thin ones, of great and small numbers, against the sums of 64 products.
func TestBlocksByChance(t *testing.T) {
	c := chance(2)
	below, above, small, great := 0, 0, 0, 0
	for range 3000 {
		most := 1 << c.below(12)
		b := c.block(1+c.below(100), -most, min(most, 2047))
		want := plainInverse(b)
		inverse(t, b, want, api.OK)
		for _, n := range want {
			switch {
			case n < -256:
				small++
			case n > 255:
				great++
			case n < 0:
				below++
			case n > 0:
				above++
			}
		}
	}
	if below == 0 || above == 0 || small == 0 || great == 0 {
		t.Error("some kind of sample never came", below, above, small, great)
	}
}

// TestHalves hands blocks of two numbers of which a sum lies just between two samples, or by one below that: a half is rounded up, also below 0, and less than that down.
func TestHalves(t *testing.T) {
	w := plainWeights()
	c := chance(3)
	seen := map[[2]bool]int{}
	for i := range 800 {
		// Of these samples the weights of 1 are odd: so with any number elsewhere there is one at the place 9 that makes up a half, or less by one.
		x, y := c.of([]int{0, 1, 6, 7}), c.of([]int{0, 1, 6, 7})
		other, short := 10+c.below(54), i%2
		first, second := w[1][x]*w[1][y], w[other%8][x]*w[other/8][y]
		for n := -2048; n <= 2047; n++ {
			m := (half - short - second*n) * inverted(first) & (whole - 1)
			if m >= half {
				m -= whole
			}
			if m < -2048 || m > 2047 {
				continue
			}
			b := with(64, 0, other, n)
			b[9] = m
			sum := plainSums(b)[8*y+x]
			rest := sum & (whole - 1)
			if rest != half-short {
				t.Fatal("no half", sum)
			}
			want := (sum - rest) / whole
			if short == 0 {
				want++
			}
			if got := samples(t, b)[8*y+x]; got != want {
				t.Fatal(b, x, y, got, want, sum)
			}
			inverse(t, b, plainInverse(b), api.OK)
			seen[[2]bool{sum < 0, short == 0}]++
		}
	}
	if len(seen) != 4 {
		t.Error("some half never came", seen)
	}
}

// inverted tells by what an odd number is to be multiplied so that it comes to one, in 64 bits.
func inverted(n int) int {
	m := n
	for range 6 {
		m *= 2 - n*m
	}
	return m
}

// TestInverseRefuses puts what is no number of a block at each place.
func TestInverseRefuses(t *testing.T) {
	for _, n := range noBlocks() {
		for place := range 64 {
			for _, all := range []int{0, 2047, -2048} {
				inverse(t, with(64, all, place, n), nil, api.ErrRange)
			}
		}
		inverse(t, full(64, n), nil, api.ErrRange)
	}
}

// TestBlocksOfOtherLengths hands blocks that are not 64; what stands in them does not matter.
func TestBlocksOfOtherLengths(t *testing.T) {
	inverse(t, nil, nil, api.ErrArg)
	inverse(t, []int{}, nil, api.ErrArg)
	inverse(t, make([]int, 63, 64), nil, api.ErrArg)
	for _, many := range []int{0, 1, 2, 3, 7, 8, 9, 16, 32, 62, 63, 65, 66, 72, 127, 128, 256, 320, 4096} {
		for _, n := range []int{0, 1, 2047, -2048, 2048, -2049, math.MinInt, math.MaxInt} {
			inverse(t, full(many, n), nil, api.ErrArg)
		}
	}
}

// rows tells what Line makes of each eight numbers.
func rows(t *testing.T, b []int) []int {
	t.Helper()
	var all []int
	for y := range 8 {
		l, e := cosine.Line(b[8*y : 8*y+8])
		if e != api.OK || len(l) != 8 {
			t.Fatal(b, l, e)
		}
		all = append(all, l...)
	}
	return all
}

// turned tells a block turned about its diagonal.
func turned(b []int) []int {
	l := make([]int, len(b))
	for i, n := range b {
		l[i%8*8+i/8] = n
	}
	return l
}

// roundedAll tells the samples of sums.
func roundedAll(sums []int) []int {
	var l []int
	for _, sum := range sums {
		l = append(l, down(sum+half, whole))
	}
	return l
}

// TestEitherOrder tells samples by Lines of Lines, rows first and columns first.
func TestEitherOrder(t *testing.T) {
	c := chance(4)
	for range 1000 {
		b := c.block(1+c.below(100), -2048, 2047)
		rowsFirst := roundedAll(turned(rows(t, turned(rows(t, b)))))
		columnsFirst := roundedAll(rows(t, turned(rows(t, turned(b)))))
		inverse(t, b, rowsFirst, api.OK)
		inverse(t, b, columnsFirst, api.OK)
	}
}

// TestTurned turns blocks about their diagonals.
func TestTurned(t *testing.T) {
	c := chance(5)
	for range 1000 {
		b := c.block(1+c.below(100), -2048, 2047)
		inverse(t, turned(b), turned(samples(t, b)), api.OK)
	}
}

// TestMirrored turns each second column, each second row, and both, to the other side of 0.
func TestMirrored(t *testing.T) {
	c := chance(6)
	for range 1000 {
		b := c.block(1+c.below(100), -2047, 2047)
		columns, lines, both := make([]int, 64), make([]int, 64), make([]int, 64)
		was := samples(t, b)
		acrossX, acrossY, acrossBoth := make([]int, 64), make([]int, 64), make([]int, 64)
		for i, n := range b {
			x, y := i%8, i/8
			columns[i], lines[i], both[i] = n*(1-2*(x%2)), n*(1-2*(y%2)), n*(1-2*(x%2))*(1-2*(y%2))
			acrossX[i], acrossY[i], acrossBoth[i] = was[8*y+7-x], was[8*(7-y)+x], was[8*(7-y)+7-x]
		}
		inverse(t, columns, acrossX, api.OK)
		inverse(t, lines, acrossY, api.OK)
		inverse(t, both, acrossBoth, api.OK)
	}
}

// TestSums adds blocks: of their samples' sum no sample of the sum lies farther than one.
func TestSums(t *testing.T) {
	c := chance(7)
	other := 0
	for range 1000 {
		a, b := c.block(1+c.below(100), -1024, 1023), c.block(1+c.below(100), -1024, 1023)
		sum := make([]int, 64)
		for i := range sum {
			sum[i] = a[i] + b[i]
		}
		x, y, z := samples(t, a), samples(t, b), samples(t, sum)
		for i := range z {
			gap := z[i] - x[i] - y[i]
			if gap < -1 || gap > 1 {
				t.Fatal(a, b, i, gap)
			}
			if gap != 0 {
				other++
			}
		}
	}
	if other == 0 {
		t.Error("no sum was rounded otherwise")
	}
}

// TestRowsOfWeights multiplies two weights' rows place by place, of all u at two x, too.
func TestRowsOfWeights(t *testing.T) {
	var w [8][8]int
	for u := range 8 {
		for x := range 8 {
			n, e := cosine.Weight(u, x)
			if e != api.OK {
				t.Fatal(u, x, e)
			}
			w[u][x] = n
		}
	}
	for a := range 8 {
		for b := range 8 {
			across, downwards := 0, 0
			if a == b {
				across, downwards = -whole, -whole
			}
			for i := range 8 {
				across += w[a][i] * w[b][i]
				downwards += w[i][a] * w[i][b]
			}
			if max(across, -across, downwards, -downwards) > 20000 {
				t.Error(a, b, across, downwards)
			}
		}
	}
}

// TestAnswersAreNew changes what was answered, and its spare room: neither what was handed in nor a later answer changes.
func TestAnswersAreNew(t *testing.T) {
	l := append(make([]int, 0, 20), with(8, 0, 0, 1)...)
	b := append(make([]int, 0, 80), with(64, 0, 0, 8)...)
	for range 3 {
		sums, _ := cosine.Line(l)
		all, _ := cosine.Inverse(b)
		if !slices.Equal(sums, full(8, 1448)) || !slices.Equal(all, full(64, 1)) {
			t.Fatal(sums, all)
		}
		for _, got := range [][]int{sums[:cap(sums)], all[:cap(all)]} {
			for i := range got {
				got[i] = 99
			}
		}
		if !slices.Equal(l, with(8, 0, 0, 1)) || !slices.Equal(b, with(64, 0, 0, 8)) {
			t.Fatal("what was handed in was changed", l, b)
		}
		for _, n := range append(l[8:cap(l)], b[64:cap(b)]...) {
			if n != 0 {
				t.Fatal("spare room was written")
			}
		}
	}
}

// TestHandedInIsNotKept changes what was handed in: what was answered stays.
func TestHandedInIsNotKept(t *testing.T) {
	l, b := with(8, 0, 0, 1), with(64, 0, 0, 8)
	sums, _ := cosine.Line(l)
	all, _ := cosine.Inverse(b)
	for _, given := range [][]int{l, b} {
		for i := range given {
			given[i] = 7
		}
	}
	if !slices.Equal(sums, full(8, 1448)) || !slices.Equal(all, full(64, 1)) {
		t.Error("answers changed", sums, all)
	}
}

// TestSpareRoomIsNotRead hands pieces of longer lists: what stands behind them does not matter.
func TestSpareRoomIsNotRead(t *testing.T) {
	l := append(with(8, 0, 0, 1), far+1, far+1)
	line(t, l[:8], full(8, 1448), api.OK)
	line(t, l[:7], nil, api.ErrArg)
	line(t, l[1:9], nil, api.ErrRange)
	b := append(with(64, 0, 0, 8), 2048, 2048)
	inverse(t, b[:64], full(64, 1), api.OK)
	inverse(t, b[:63], nil, api.ErrArg)
	inverse(t, b[1:65], nil, api.ErrRange)
	if l[8] != far+1 || l[9] != far+1 || b[64] != 2048 || b[65] != 2048 {
		t.Error("what stands behind was changed")
	}
}

// TestAnswersStay asks again and again, also for wrong things: no call tells on another one.
func TestAnswersStay(t *testing.T) {
	for i := range 200 {
		weight(t, 1, i%8, []int{2009, 1703, 1138, 400, -400, -1138, -1703, -2009}[i%8], api.OK)
		weight(t, 8, i, 0, api.ErrRange)
		line(t, full(8, far+1), nil, api.ErrRange)
		line(t, with(8, 0, i%8, i), plainLine(with(8, 0, i%8, i)), api.OK)
		line(t, full(7, i), nil, api.ErrArg)
		inverse(t, with(64, 0, i%64, 2048+i), nil, api.ErrRange)
		inverse(t, with(64, i, i%64, -i), plainInverse(with(64, i, i%64, -i)), api.OK)
		inverse(t, full(65, i), nil, api.ErrArg)
	}
}

func BenchmarkInverse(b *testing.B) {
	c := chance(8)
	block := c.block(30, -2048, 2047)
	for b.Loop() {
		cosine.Inverse(block)
	}
}
