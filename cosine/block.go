package cosine

import (
	"iter"

	"praxinoscope/api"
)

// extra is by how many bits a sum is too great for a sample: either weight is by 11, and a transform of eight times eight leaves two more.
const extra = 24

// numbers are those of a block, row by row.
type numbers [api.MaxPairs]int

// samples tells a block's samples.
func samples(b numbers) numbers {
	w := makeWeights()
	for y := range side {
		b.turn(&w, side*y, 1)
	}
	for x := range side {
		b.turn(&w, x, side)
	}
	for i, sum := range b {
		b[i] = rounded(sum)
	}
	return b
}

// strided tells the places of a row or a column of a block, each with its place in that line.
func strided(first, step int) iter.Seq2[int, int] {
	return func(yield func(int, int) bool) {
		for i := range side {
			if !yield(i, first+step*i) {
				return
			}
		}
	}
}

// turn puts the sums of a row or a column in its place.
func (b *numbers) turn(w *weights, first, step int) {
	var l eight
	for i, place := range strided(first, step) {
		l[i] = b[place]
	}
	l = w.line(l)
	for i, place := range strided(first, step) {
		b[place] = l[i]
	}
}

// rounded tells the sample of a sum. A shift rounds down below 0, too, where a division would not.
func rounded(sum int) int {
	return (sum + 1<<(extra-1)) >> extra
}
