package cosine

// side is how many rows a block has, and how many numbers each of them.
const side = 8

// eight are the numbers of a line.
type eight [side]int

// weights are those of each u, at each x.
type weights [side][side]int

// flat is the weight of 0, everywhere: 2048 times the root of a half, which makes all rows of the weights equally long.
const flat = 1448

// aWhole is how many steps a whole turn has.
const aWhole = 32

// makeWeights tells all weights.
func makeWeights() weights {
	var w weights
	for x := range side {
		w[0][x] = flat
		for u := 1; u < side; u++ {
			w[u][x] = cosine((2*x + 1) * u % aWhole)
		}
	}
	return w
}

// cosine tells 2048 times the cosine of so many steps, fewer than a whole turn has, rounded.
func cosine(k int) int {
	quarter := [aWhole/4 + 1]int{2048, 2009, 1892, 1703, 1448, 1138, 784, 400, 0}
	switch {
	case k > aWhole/2:
		return cosine(aWhole - k)
	case k > aWhole/4:
		return -quarter[aWhole/2-k]
	}
	return quarter[k]
}

// line tells of each x the sum of a line's numbers, each by its weight at x.
func (w *weights) line(l eight) eight {
	var sums eight
	for u, n := range l {
		for x := range sums {
			sums[x] += w[u][x] * n
		}
	}
	return sums
}
