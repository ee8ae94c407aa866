package vector

import "praxinoscope/prefix"

// tails tells of each size, from 1 on, what stands in its code behind the first one.
var tails = [reach + 1]string{
	4: "1", 5: "01", 6: "00",
	7: "1", 8: "011", 9: "010", 10: "001", 11: "0001", 12: "0000",
	13: "111", 14: "110", 15: "101", 16: "100",
}

// sizeCode tells the code of a size, which is how far a difference lies from 0, without its sign: noughts, a one, a tail.
func sizeCode(size int) string {
	text := ""
	switch {
	case size >= 13:
		text += "0"
		fallthrough
	case size >= 7:
		text += "0"
		fallthrough
	case size >= 4:
		text += "0"
		fallthrough
	case size >= 3:
		text += "0"
		fallthrough
	case size >= 2:
		text += "0"
		fallthrough
	case size >= 1:
		text += "0"
	}
	return text + "1" + tails[size]
}

// sizes tells the tree of the codes of all sizes. It is made for each call: nothing is kept between calls.
func sizes() *prefix.Tree {
	codes, numbers := make([]string, reach+1), make([]int, reach+1)
	for size := range reach + 1 {
		codes[size], numbers[size] = sizeCode(size), size
	}
	t, _ := prefix.Make(codes, numbers)
	return t
}
