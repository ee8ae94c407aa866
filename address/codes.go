package address

import "strconv"

// What stands where a difference may stand, as the numbers that are got of it.
const (
	stuffing = 0
	start    = places + 1
)

// startNoughts is how many noughts a start begins with: so many are no other code's.
const startNoughts = 15

// code is so many bits, as the number that they are: no text, since each macroblock that is read asks for all codes.
type code struct{ bits, many int }

// codes tells the codes of stuffing, of all differences and of what begins a start, each at the place of its number.
func codes() []code {
	all := append(make([]code, 0, start+1),
		code{0b00000001111, 11},
		code{0b1, 1},
		code{0b011, 3}, code{0b010, 3},
		code{0b0011, 4}, code{0b0010, 4},
		code{0b00011, 5}, code{0b00010, 5},
		code{0b0000111, 7}, code{0b0000110, 7},
		code{0b00001011, 8}, code{0b00001010, 8}, code{0b00001001, 8}, code{0b00001000, 8}, code{0b00000111, 8}, code{0b00000110, 8})
	all = appendFalling(all, code{0b0000010111, 10}, 6)
	all = appendFalling(all, code{0b00000100011, 11}, 12)
	return append(all, code{0, startNoughts})
}

// appendFalling appends so many codes, of which each is less by one than the one ahead.
func appendFalling(all []code, first code, count int) []code {
	for down := range count {
		all = append(all, code{first.bits - down, first.many})
	}
	return all
}

// bit tells the bit at a place of a code.
func (c code) bit(at int) int {
	return c.bits >> (c.many - 1 - at) & 1
}

// text spells a code; a one more, ahead of all, keeps its first noughts.
func (c code) text() string {
	return strconv.FormatInt(int64(1<<c.many|c.bits), 2)[1:]
}
