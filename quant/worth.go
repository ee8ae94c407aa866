package quant

import (
	"cmp"

	"praxinoscope/api"
)

// mostLevel is the greatest level; the least one is as far from 0.
const mostLevel = 127

// No value lies below the least one, or above the most.
const (
	least = -2048
	most  = 2047
)

// isLevel tells whether a number is a level, 0 among them.
func isLevel(n int) bool {
	return n >= -mostLevel && n <= mostLevel
}

// isQuant tells whether a number is a quantiser.
func isQuant(n int) bool {
	return n >= 1 && n <= api.MaxQuant
}

// check tells the error of a block's levels and its quantiser.
func check(levels []int, quant int) api.Errno {
	if len(levels) != api.MaxPairs {
		return api.ErrArg
	}
	for _, level := range levels {
		if !isLevel(level) {
			return api.ErrRange
		}
	}
	if !isQuant(quant) {
		return api.ErrRange
	}
	return api.OK
}

// scales tell how far from 0 the value of a level lies that is itself so far from 0, but not at it: the first one by even quantisers, the second one by odd ones.
func scales() [2]func(far, quant int) int {
	return [2]func(far, quant int) int{
		func(far, quant int) int { return quant*(2*far+1) - 1 },
		func(far, quant int) int { return quant * (2*far + 1) },
	}
}

// clip tells what of low to high is nearest to n.
func clip[T cmp.Ordered](n, low, high T) T {
	return max(low, min(n, high))
}

// worth tells the value of a level by a quantiser.
func worth(level, quant int) int {
	scale := scales()[quant%2]
	switch {
	case level > 0:
		return clip(scale(level, quant), least, most)
	case level < 0:
		return clip(-scale(-level, quant), least, most)
	}
	return 0
}

// values tells the values of levels.
func values(levels []int, quant int) []int {
	all := make([]int, len(levels))
	for i, level := range levels {
		all[i] = worth(level, quant)
	}
	return all
}

// nearest tells the level whose value is nearest to a number.
func nearest(n, quant int) int {
	gap := func(level int) int {
		g := worth(level, quant) - n
		return max(g, -g)
	}
	// 0 is nearer than any level of the other side, so levels of the number's own side are enough.
	side := 1
	if n < 0 {
		side = -1
	}
	best := 0
	// Rising from 0, so that of levels which are equally near the one nearer to 0 stays.
	for far := range mostLevel + 1 {
		if gap(side*far) < gap(best) {
			best = side * far
		}
	}
	return best
}
