package coeff

import (
	"iter"
	"strconv"
	"strings"

	"praxinoscope/api"
	"praxinoscope/bits"
)

// What is no code of the table: the end of a block, what an escape begins with, and the code of a single one at first, where no end may stand.
const (
	endCode    = "10"
	escapeCode = "000001"
	firstOne   = "1"
)

// Behind the code of an escape stand a run and a level of so many bits; so an escape, of all codes the longest one, has so many.
const (
	runBits   = 6
	levelBits = 8
	mostBits  = len(escapeCode) + runBits + levelBits
)

// table tells the codes of pairs above 0, each with its pair, and without the sign behind it, at first or later.
func table(first bool) iter.Seq2[string, api.Pair] {
	return func(yield func(string, api.Pair) bool) {
		for run, codes := range codesOfRuns() {
			level := 0
			for code := range strings.FieldsSeq(codes) {
				level++
				if first && run == 0 && level == 1 {
					code = firstOne
				}
				if !yield(code, api.Pair{Run: run, Level: level}) {
					return
				}
			}
		}
	}
}

// codesOfRuns tells of each run, from 0 on, the codes of its levels, from 1 on, as they are later in a block.
func codesOfRuns() [27]string {
	return [27]string{
		"11 0100 00101 0000110 00100110 00100001 0000001010 000000011101 000000011000 000000010011 " +
			"000000010000 0000000011010 0000000011001 0000000011000 0000000010111",
		"011 000110 00100101 0000001100 000000011011 0000000010110 0000000010101",
		"0101 0000100 0000001011 000000010100 0000000010100",
		"00111 00100100 000000011100 0000000010011",
		"00110 0000001111 000000010010",
		"000111 0000001001 0000000010010",
		"000101 000000011110",
		"000100 000000010101",
		"0000111 000000010001",
		"0000101 0000000010001",
		"00100111 0000000010000",
		"00100011",
		"00100010",
		"00100000",
		"0000001110",
		"0000001101",
		"0000001000",
		"000000011111",
		"000000011010",
		"000000011001",
		"000000010111",
		"000000010110",
		"0000000011111",
		"0000000011110",
		"0000000011101",
		"0000000011100",
		"0000000011011",
	}
}

// textAt spells the bits from a place on, as many as a code may have, or as there are.
func textAt(b []byte, at int) string {
	many := max(0, min(mostBits, bits.Count(b)-at))
	n, _ := bits.Read(b, at, many)
	return spell(n, many)
}

// spell spells a number in so many bits.
func spell(n, many int) string {
	return strconv.FormatInt(int64(1<<many|n), 2)[1:]
}
