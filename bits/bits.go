// Package bits is layer 1: bits of bytes, start codes, a pen: see shared/doc/01-bits.md.
package bits

import (
	"iter"

	"praxinoscope/api"
)

// A start code is so many noughts and a one; a number of so many bits stands behind it.
const (
	startNoughts = 15
	startNumber  = 4
)

// mostBits is how long a number may be that is read or written at once.
const mostBits = 32

// Count tells how many bits b has.
func Count(b []byte) int {
	return len(b) * 8
}

// Read tells the number that n bits at a place are.
func Read(b []byte, at, n int) (int, api.Errno) {
	if at < 0 || n < 0 || n > mostBits {
		return 0, api.ErrRange
	}
	if n > bitsFrom(b, at) {
		return 0, api.ErrMore
	}
	number := 0
	for i := range n {
		number = number<<1 | bitAt(b, at+i)
	}
	return number, api.OK
}

// Find tells the least place, from a given one on, at which a start code stands.
func Find(b []byte, from int) (int, api.Errno) {
	if from < 0 {
		return 0, api.ErrRange
	}
	noughts := 0
seek:
	for at, bit := range bitsOn(b, from) {
		switch {
		case bit == 0:
			noughts++
			continue seek
		case noughts < startNoughts:
			noughts = 0
			continue seek
		}
		return at - startNoughts, api.OK
	}
	return 0, api.ErrMore
}

// Start reads the start at a place: its number, and how many bits it has.
func Start(b []byte, at int) (int, int, api.Errno) {
	if at < 0 {
		return 0, 0, api.ErrRange
	}
	one, found := firstOne(b, at)
	if !found {
		return 0, 0, api.ErrMore
	}
	if one-at < startNoughts {
		return 0, 0, api.ErrCode
	}
	number, err := Read(b, one+1, startNumber)
	if err != api.OK {
		return 0, 0, err
	}
	return number, one + 1 + startNumber - at, api.OK
}

// firstOne tells the place of the first one from a place on, and whether there is one.
func firstOne(b []byte, from int) (int, bool) {
	for at, bit := range bitsOn(b, from) {
		if bit == 1 {
			return at, true
		}
	}
	return 0, false
}

// bitsOn yields the places from a given one on, each with its bit.
func bitsOn(b []byte, from int) iter.Seq2[int, int] {
	return func(yield func(int, int) bool) {
		for at := from; at < Count(b); at++ {
			if !yield(at, bitAt(b, at)) {
				return
			}
		}
	}
}

// bitsFrom tells how many bits there are from a place on: none, if it lies behind the end.
func bitsFrom(b []byte, at int) int {
	return max(0, Count(b)-at)
}

// bitAt tells the bit at a place that b has.
func bitAt(b []byte, at int) int {
	return int(b[at/8]>>(7-at%8)) & 1
}
