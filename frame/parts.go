package frame

import "iter"

// A macroblock has so many samples of luma either way, a block so many of its plane.
const (
	macroSide = 16
	blockSide = 8
)

// A group has so many rows of so many macroblocks, and so many samples of luma.
const (
	rows        = 3
	columns     = 11
	groupWidth  = columns * macroSide
	groupHeight = rows * macroSide
)

// A macroblock has so many blocks; the last two are chroma.
const (
	blocks       = 6
	firstChroma  = 5
	secondChroma = 6
)

// group is a group of a picture: its number, and how far to the right and how far down its first sample of luma is.
type group struct{ number, x, y int }

// macro is a macroblock of a group: its address, and how far to the right and how far down its first sample of luma is.
type macro struct{ group, address, x, y int }

// block is one of a macroblock's blocks: its number there.
type block struct {
	macro
	number int
}

// plane is luma or a chroma: where among a picture's bytes its first sample is, and how many a row of it has.
type plane struct{ first, width int }

// macros tells all macroblocks of a group, in order.
func (g group) macros() iter.Seq[macro] {
	return func(yield func(macro) bool) {
		for i := range rows * columns {
			right, down := macroSide*(i%columns), macroSide*(i/columns)
			if !yield(macro{group: g.number, address: i + 1, x: g.x + right, y: g.y + down}) {
				return
			}
		}
	}
}

// corner tells how far to the right and how far down in its plane a block's first sample is.
func (b block) corner() (x, y int) {
	switch b.number {
	case firstChroma, secondChroma:
		return b.x / 2, b.y / 2
	default:
		return b.x + blockSide*((b.number-1)%2), b.y + blockSide*((b.number-1)/2)
	}
}

// place tells where among a picture's bytes a sample of a plane is.
func (p plane) place(x, y int) int {
	return p.first + p.width*y + x
}
