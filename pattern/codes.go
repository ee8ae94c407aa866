package pattern

import (
	"strings"

	"praxinoscope/prefix"
)

// codes is the codes of all patterns, rising from that of 1 on, eight in a line.
const codes = `
01011    01001    001101    1101   0010111  0010011  00011111  1100
0010110  0010010  00011110  10011  00011011 00010111 00010011  1011
0010101  0010001  00011101  10001  00011001 00010101 00010001  001111
00001111 00001101 000000011 01111  00001011 00000111 000000111 1010
0010100  0010000  00011100  001110 00001110 00001100 000000010 10000
00011000 00010100 00010000  01110  00001010 00000110 000000110 10010
00011010 00010110 00010010  01101  00001001 00000101 000000101 01100
00001000 00000100 000000100 111    01010    01000    001100
`

// tree tells the tree of all codes, each with its pattern. It is made for each call: nothing is kept between calls.
func tree() *prefix.Tree {
	var texts []string
	var numbers []int
	for code := range strings.FieldsSeq(codes) {
		texts = append(texts, code)
		numbers = append(numbers, len(texts))
	}
	t, _ := prefix.Make(texts, numbers)
	return t
}
