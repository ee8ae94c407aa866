package vector_test

import (
	"math"
	"testing"

	"praxinoscope/api"
	"praxinoscope/vector"
)

// turned looks whether Turn answers just this.
func turned(t *testing.T, predictor, difference, want int, err api.Errno) {
	t.Helper()
	if n, e := vector.Turn(predictor, difference); n != want || e != err {
		t.Fatalf("Turn(%d, %d): %d, %d, not %d, %d", predictor, difference, n, e, want, err)
	}
}

// differs looks whether Diff answers just this.
func differs(t *testing.T, predictor, part, want int, err api.Errno) {
	t.Helper()
	if n, e := vector.Diff(predictor, part); n != want || e != err {
		t.Fatalf("Diff(%d, %d): %d, %d, not %d, %d", predictor, part, n, e, want, err)
	}
}

// predicted looks whether Predict answers just this.
func predicted(t *testing.T, address, difference int, had bool, x, y, wantX, wantY int) {
	t.Helper()
	if a, b := vector.Predict(address, difference, had, x, y); a != wantX || b != wantY {
		t.Fatalf("Predict(%d, %d, %t, %d, %d): %d, %d, not %d, %d", address, difference, had, x, y, a, b, wantX, wantY)
	}
}

// far are numbers that are neither parts nor differences, by much or by 16 bits, 32 bits or more.
func far() []int {
	return []int{17, 31, 32, 33, -18, -31, -32, -33, 64, -64, 127, -128, 255, 256, 271, 65521, 65536, 65551, -65536, math.MaxInt32, math.MinInt32, 1<<32 - 16, 1<<32 - 1, 1 << 32, 1<<32 + 15, -1 << 32, math.MaxInt, math.MaxInt - 1, math.MaxInt - 31, math.MaxInt - 32, math.MinInt, math.MinInt + 1, math.MinInt + 31, math.MinInt + 32}
}

// isPart and isDifference tell what the document's words say.
func isPart(n int) bool       { return -15 <= n && n <= 15 }
func isDifference(n int) bool { return -16 <= n && n <= 15 }

// away tells the difference 32 away: above, if it is below 0, else below.
func away(difference int) int {
	if difference < 0 {
		return difference + 32
	}
	return difference - 32
}

func TestTurnExamples(t *testing.T) {
	turned(t, 0, 5, 5, api.OK)
	turned(t, 10, 10, -12, api.OK)
	turned(t, -10, -10, 12, api.OK)
	turned(t, 0, -16, 0, api.ErrVector)
	turned(t, 1, -16, -15, api.OK)
	turned(t, -1, -16, 15, api.OK)
	turned(t, 16, 0, 0, api.ErrRange)
}

func TestDiffExamples(t *testing.T) {
	differs(t, 10, -12, 10, api.OK)
	differs(t, -15, 15, -2, api.OK)
	differs(t, 15, -15, 2, api.OK)
	differs(t, 3, 3, 0, api.OK)
}

func TestPredictExamples(t *testing.T) {
	predicted(t, 5, 1, true, 2, -3, 2, -3)
	predicted(t, 12, 1, true, 2, -3, 0, 0)
	predicted(t, 5, 2, true, 2, -3, 0, 0)
	predicted(t, 5, 1, false, 2, -3, 0, 0)
}

// TestTurnEdges turns by the least and the greatest numbers that may be, and by those beside them.
func TestTurnEdges(t *testing.T) {
	for _, x := range []struct {
		predictor, difference, want int
		err                         api.Errno
	}{
		{0, 0, 0, api.OK}, {0, 15, 15, api.OK}, {0, -15, -15, api.OK}, {0, 16, 0, api.ErrRange}, {0, -16, 0, api.ErrVector}, {0, -17, 0, api.ErrRange},
		{15, 0, 15, api.OK}, {15, 1, 0, api.ErrVector}, {15, 2, -15, api.OK}, {15, 15, -2, api.OK}, {15, -15, 0, api.OK}, {15, -16, -1, api.OK},
		{-15, 0, -15, api.OK}, {-15, -1, 0, api.ErrVector}, {-15, -2, 15, api.OK}, {-15, -16, 1, api.OK}, {-15, 15, 0, api.OK}, {-15, 14, -1, api.OK},
		{1, 15, 0, api.ErrVector}, {2, 15, -15, api.OK}, {1, 14, 15, api.OK}, {-1, -15, 0, api.ErrVector}, {-2, -15, 15, api.OK}, {-1, -14, -15, api.OK},
		{8, 8, 0, api.ErrVector}, {-8, -8, 0, api.ErrVector}, {1, -16, -15, api.OK}, {-1, -16, 15, api.OK},
		{15, 16, 0, api.ErrRange}, {15, -17, 0, api.ErrRange}, {-15, 16, 0, api.ErrRange}, {-15, -17, 0, api.ErrRange},
		{16, 0, 0, api.ErrRange}, {16, 15, 0, api.ErrRange}, {16, -16, 0, api.ErrRange}, {16, -1, 0, api.ErrRange}, {16, -17, 0, api.ErrRange}, {16, 16, 0, api.ErrRange},
		{-16, 0, 0, api.ErrRange}, {-16, 15, 0, api.ErrRange}, {-16, -16, 0, api.ErrRange}, {-16, 1, 0, api.ErrRange}, {-16, -17, 0, api.ErrRange}, {-16, 16, 0, api.ErrRange},
	} {
		turned(t, x.predictor, x.difference, x.want, x.err)
	}
}

// TestTurnOfAll turns all there are, and many that are not, by the words of the promise.
func TestTurnOfAll(t *testing.T) {
	for predictor := -100; predictor <= 100; predictor++ {
		for difference := -100; difference <= 100; difference++ {
			sum, other := predictor+difference, predictor+away(difference)
			switch {
			case !isPart(predictor) || !isDifference(difference):
				turned(t, predictor, difference, 0, api.ErrRange)
			case isPart(sum):
				turned(t, predictor, difference, sum, api.OK)
			case isPart(other):
				turned(t, predictor, difference, other, api.OK)
			default:
				turned(t, predictor, difference, 0, api.ErrVector)
			}
		}
	}
}

// TestDiffOfAll asks all there are, and many that are not: the one difference is looked for by the words of the promise.
func TestDiffOfAll(t *testing.T) {
	for predictor := -100; predictor <= 100; predictor++ {
		for part := -100; part <= 100; part++ {
			if !isPart(predictor) || !isPart(part) {
				differs(t, predictor, part, 0, api.ErrRange)
				continue
			}
			var all []int
			for difference := -16; difference <= 15; difference++ {
				if predictor+difference == part || predictor+away(difference) == part {
					all = append(all, difference)
				}
			}
			if len(all) != 1 {
				t.Fatal("from", predictor, "to", part, "go", all)
			}
			differs(t, predictor, part, all[0], api.OK)
		}
	}
}

func TestDiffEdges(t *testing.T) {
	for _, x := range []struct {
		predictor, part, want int
		err                   api.Errno
	}{
		{0, 15, 15, api.OK}, {0, -15, -15, api.OK}, {-1, 15, -16, api.OK}, {1, -15, -16, api.OK}, {15, -1, -16, api.OK}, {-15, 1, -16, api.OK},
		{-2, 15, -15, api.OK}, {2, -15, 15, api.OK}, {15, 0, -15, api.OK}, {-15, 0, 15, api.OK}, {15, 15, 0, api.OK}, {-15, -15, 0, api.OK}, {-15, 15, -2, api.OK}, {15, -15, 2, api.OK},
		{16, 0, 0, api.ErrRange}, {-16, 0, 0, api.ErrRange}, {0, 16, 0, api.ErrRange}, {0, -16, 0, api.ErrRange}, {16, 16, 0, api.ErrRange}, {-16, -16, 0, api.ErrRange},
		{15, 16, 0, api.ErrRange}, {16, 15, 0, api.ErrRange}, {-15, -16, 0, api.ErrRange}, {-16, -15, 0, api.ErrRange}, {16, -16, 0, api.ErrRange}, {-16, 16, 0, api.ErrRange},
	} {
		differs(t, x.predictor, x.part, x.want, x.err)
	}
}

// TestFarNumbersAreRefused hands in very large numbers, beside right ones and beside each other: sums of them may be wrapped round to parts.
func TestFarNumbersAreRefused(t *testing.T) {
	for _, n := range far() {
		for other := -17; other <= 17; other++ {
			turned(t, n, other, 0, api.ErrRange)
			turned(t, other, n, 0, api.ErrRange)
			differs(t, n, other, 0, api.ErrRange)
			differs(t, other, n, 0, api.ErrRange)
		}
		for _, other := range far() {
			turned(t, n, other, 0, api.ErrRange)
			differs(t, n, other, 0, api.ErrRange)
		}
	}
}

// TestEachPartFromEachPredictor tells each part by just one difference, and turns to nothing but parts.
func TestEachPartFromEachPredictor(t *testing.T) {
	for predictor := -15; predictor <= 15; predictor++ {
		by := map[int]int{}
		for difference := -16; difference <= 15; difference++ {
			part, e := vector.Turn(predictor, difference)
			if sum := predictor + difference; sum == 16 || sum == -16 {
				turned(t, predictor, difference, 0, api.ErrVector)
				continue
			}
			if e != api.OK || !isPart(part) {
				t.Fatal("Turn", predictor, difference, part, e)
			}
			if _, twice := by[part]; twice {
				t.Fatal("from", predictor, "both", by[part], difference, "go to", part)
			}
			by[part] = difference
			differs(t, predictor, part, difference, api.OK)
		}
		if len(by) != 31 {
			t.Fatal("from", predictor, "there are", len(by), "parts")
		}
	}
}

// TestPredictOfAll asks for all addresses and differences, and for many that are none: it is as the words say of these too.
func TestPredictOfAll(t *testing.T) {
	numbers := []int{math.MinInt, -1 << 32, 1 << 32, 1<<32 + 1, 1<<32 + 12, math.MaxInt32, math.MaxInt}
	for n := -40; n <= 80; n++ {
		numbers = append(numbers, n)
	}
	for _, address := range numbers {
		for _, difference := range numbers {
			begins := address == 1 || address == 12 || address == 23
			if difference == 1 && !begins {
				predicted(t, address, difference, true, 7, -9, 7, -9)
			} else {
				predicted(t, address, difference, true, 7, -9, 0, 0)
			}
			predicted(t, address, difference, false, 7, -9, 0, 0)
		}
	}
}

// TestPredictEdges asks at the beginnings of rows and beside them, and a difference beside 1.
func TestPredictEdges(t *testing.T) {
	for _, address := range []int{2, 11, 13, 22, 24, 33} {
		predicted(t, address, 1, true, 2, -3, 2, -3)
		predicted(t, address, 0, true, 2, -3, 0, 0)
		predicted(t, address, 2, true, 2, -3, 0, 0)
		predicted(t, address, -1, true, 2, -3, 0, 0)
		predicted(t, address, address, true, 2, -3, 0, 0)
		predicted(t, address, 1, false, 2, -3, 0, 0)
	}
	for _, address := range []int{1, 12, 23} {
		for difference := -1; difference <= 3; difference++ {
			predicted(t, address, difference, true, 2, -3, 0, 0)
			predicted(t, address, difference, false, 2, -3, 0, 0)
		}
	}
	for _, address := range []int{0, -1, 34, -12, 45} {
		predicted(t, address, 1, true, 2, -3, 2, -3)
		predicted(t, address, 0, true, 2, -3, 0, 0)
	}
}

// TestPredictTellsWhatItWasTold hands in all kinds of vectors: x stays x, and y stays y.
func TestPredictTellsWhatItWasTold(t *testing.T) {
	parts := append(far(), -16, -15, -1, 0, 1, 15, 16)
	for _, x := range parts {
		for _, y := range parts {
			predicted(t, 5, 1, true, x, y, x, y)
			predicted(t, 5, 1, false, x, y, 0, 0)
			predicted(t, 5, 2, true, x, y, 0, 0)
			predicted(t, 23, 1, true, x, y, 0, 0)
		}
	}
}
