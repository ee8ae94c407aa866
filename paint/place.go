package paint

import (
	"iter"

	"praxinoscope/api"
	"praxinoscope/frame"
)

// A block has so many rows, and each of them so many samples.
const (
	side      = 8
	blockSize = side * side
)

// blocks is how many a macroblock has.
const blocks = 6

// held are a block's samples, row by row, out of any picture.
type held [blockSize]byte

// place is where among a picture's bytes a block's first sample is, and how many bytes a row of its plane has.
type place struct{ first, row int }

// pictures tells why bytes are not pictures of a spot's format.
func pictures(s api.Spot, all ...[]byte) api.Errno {
	if _, _, err := frame.Corner(s.Format, s.Group, s.Address); err != api.OK {
		return err
	}
	// Of a spot that has a corner the format is known.
	_, _, many, _ := frame.Size(s.Format)
	for _, b := range all {
		if len(b) != many {
			return api.ErrArg
		}
	}
	return api.OK
}

// placeOf tells the place of one block of a spot.
func placeOf(s api.Spot, block int) (place, api.Errno) {
	first, row, err := frame.Place(s.Format, s.Group, s.Address, block)
	return place{first, row}, err
}

// placesOf tells the places of all blocks of a spot that has a corner.
func placesOf(s api.Spot) [blocks]place {
	var places [blocks]place
	for i := range places {
		places[i], _ = placeOf(s, i+1)
	}
	return places
}

// rows tells the block's rows, each a slice of the picture, by where it begins among the block's samples.
func (p place) rows(b []byte) iter.Seq2[int, []byte] {
	return func(yield func(int, []byte) bool) {
		for i := range side {
			at := p.first + p.row*i
			if !yield(side*i, b[at:at+side]) {
				return
			}
		}
	}
}

// take tells the samples that stand at the place.
func (p place) take(b []byte) held {
	var h held
	for at, row := range p.rows(b) {
		copy(h[at:], row)
	}
	return h
}

// lay puts samples at the place.
func (p place) lay(b []byte, h held) {
	for at, row := range p.rows(b) {
		copy(row, h[at:])
	}
}
