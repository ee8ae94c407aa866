package frame

import (
	"iter"

	"praxinoscope/api"
)

// format tells how large pictures are.
type format int

// The formats.
const (
	qcif format = api.QCIF
	cif  format = api.CIF
)

// known tells the format that has a number.
func known(number int) (format, api.Errno) {
	switch f := format(number); f {
	case qcif, cif:
		return f, api.OK
	default:
		return 0, api.ErrRange
	}
}

// size tells the width and the height of luma.
func (f format) size() (width, height int) {
	switch f {
	case qcif:
		return 176, 144
	case cif:
		return 352, 288
	default:
		return 0, 0
	}
}

// bytes tells how many bytes a picture has: each of both chromas a quarter of luma's.
func (f format) bytes() int {
	width, height := f.size()
	return width*height + 2*(width/2)*(height/2)
}

// groups tells all groups, in order.
func (f format) groups() iter.Seq[group] {
	return func(yield func(group) bool) {
		width, height := f.size()
		for row := range height / groupHeight {
			for column := range width / groupWidth {
				// Where a group has the whole width, none stands at its right: no number is even.
				g := group{number: 2*row + column + 1, x: groupWidth * column, y: groupHeight * row}
				if !yield(g) {
					return
				}
			}
		}
	}
}

// group tells the group that has a number.
func (f format) group(number int) (group, api.Errno) {
	for g := range f.groups() {
		if g.number == number {
			return g, api.OK
		}
	}
	return group{}, api.ErrOrder
}

// blocks tells all blocks of a picture, group by group.
func (f format) blocks() iter.Seq[block] {
	return func(yield func(block) bool) {
		for g := range f.groups() {
			for m := range g.macros() {
				for i := range blocks {
					if !yield(block{macro: m, number: i + 1}) {
						return
					}
				}
			}
		}
	}
}

// plane tells the plane in which a block lies.
func (f format) plane(block int) plane {
	width, height := f.size()
	luma, chroma := width*height, (width/2)*(height/2)
	switch block {
	case firstChroma:
		return plane{first: luma, width: width / 2}
	case secondChroma:
		return plane{first: luma + chroma, width: width / 2}
	default:
		return plane{first: 0, width: width}
	}
}
