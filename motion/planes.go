package motion

import "iter"

// A macroblock has so many samples of luma either way, a block so many of its plane.
const (
	macroSide = 16
	blockSide = 8
)

// lumaBlocks is how many blocks of a macroblock are luma; behind them each chroma has one.
const lumaBlocks = 4

// area is how many samples there are either way.
type area struct{ width, height int }

// square is so many samples either way, and how far to the right and how far down the first one is.
type square struct{ x, y, side int }

// plane is luma or a chroma of a picture: where among the picture's bytes its samples begin, and these, row by row.
type plane struct {
	area
	first int
	b     []byte
}

// planeOf tells in which plane a block lies.
func planeOf(block int) int {
	return max(0, block-lumaBlocks)
}

// planes tells a picture's planes: luma, the first chroma, the second one.
func planes(b []byte, width, height int) [3]plane {
	whole, half := area{width, height}, area{width / 2, height / 2}
	n, m := whole.many(), half.many()
	return [3]plane{
		{whole, 0, b[:n]},
		{half, n, b[n : n+m]},
		{half, n + m, b[n+m:]},
	}
}

// many tells how many samples an area has.
func (a area) many() int {
	return a.width * a.height
}

// has tells whether there is such a sample.
func (a area) has(x, y int) bool {
	return x >= 0 && x < a.width && y >= 0 && y < a.height
}

// places tells the places of a square's samples, row by row, till one lies outside.
func (a area) places(q square) iter.Seq2[int, int] {
	return func(yield func(int, int) bool) {
	rows:
		for y := range q.rows() {
			for i := range q.side {
				x := q.x + i
				if !a.has(x, y) || !yield(x, y) {
					break rows
				}
			}
		}
	}
}

// holds tells whether none of a square's samples lies outside.
func (a area) holds(q square) bool {
	n := 0
	for range a.places(q) {
		n++
	}
	return n == q.side*q.side
}

// rows tells how far down each row of a square is.
func (q square) rows() iter.Seq[int] {
	return func(yield func(int) bool) {
		for i := range q.side {
			if !yield(q.y + i) {
				return
			}
		}
	}
}

// spot tells how far to the right and how far down the sample is that has a place among the picture's bytes.
func (p plane) spot(at int) (x, y int) {
	return (at - p.first) % p.width, (at - p.first) / p.width
}

// sample tells the sample at a place.
func (p plane) sample(x, y int) byte {
	return p.b[p.width*y+x]
}

// samples tells a square's samples, row by row.
func (p plane) samples(q square) []byte {
	var l []byte
	for x, y := range p.places(q) {
		l = append(l, p.sample(x, y))
	}
	return l
}
