package frame_test

import (
	"math"
	"slices"
	"testing"

	"praxinoscope/api"
	"praxinoscope/frame"
)

// formats tells both.
func formats() []int {
	return []int{api.QCIF, api.CIF}
}

// corner is a group's number, and where its first sample of luma is.
type corner struct{ group, x, y int }

// corners tells the groups of a format as the document has them stand.
func corners(format int) []corner {
	if format == api.QCIF {
		return []corner{{1, 0, 0}, {3, 0, 48}, {5, 0, 96}}
	}
	return []corner{
		{1, 0, 0}, {2, 176, 0},
		{3, 0, 48}, {4, 176, 48},
		{5, 0, 96}, {6, 176, 96},
		{7, 0, 144}, {8, 176, 144},
		{9, 0, 192}, {10, 176, 192},
		{11, 0, 240}, {12, 176, 240},
	}
}

// sample is a sample's plane (0 is luma), and where in it the sample is.
type sample struct{ plane, x, y int }

// samples tells a picture's samples as its bytes: luma, row by row, then its first chroma, then its second one.
func samples(format int) []sample {
	var all []sample
	for plane := range 3 {
		width, height := planeSize(format, plane)
		for y := range height {
			for x := range width {
				all = append(all, sample{plane, x, y})
			}
		}
	}
	return all
}

// planeSize tells how many samples a plane has either way.
func planeSize(format, plane int) (int, int) {
	switch {
	case format == api.QCIF && plane == 0:
		return 176, 144
	case format == api.QCIF:
		return 88, 72
	case plane == 0:
		return 352, 288
	default:
		return 176, 144
	}
}

// firstOf tells the first sample of a block whose macroblock's first one is at x, y.
func firstOf(x, y, block int) sample {
	switch block {
	case 1:
		return sample{0, x, y}
	case 2:
		return sample{0, x + 8, y}
	case 3:
		return sample{0, x, y + 8}
	case 4:
		return sample{0, x + 8, y + 8}
	case 5:
		return sample{1, x / 2, y / 2}
	default:
		return sample{2, x / 2, y / 2}
	}
}

// steps tells how far the macroblock of each address, from 1 on, lies from its group's first sample.
func steps() [][2]int {
	var l [][2]int
	for _, y := range []int{0, 16, 32} {
		for _, x := range []int{0, 16, 32, 48, 64, 80, 96, 112, 128, 144, 160} {
			l = append(l, [2]int{x, y})
		}
	}
	return l
}

// far tells numbers that lie far from any format, group, address and block; cut to fewer bits, or multiplied by what a picture has of something, some would be a small one.
func far() []int {
	l := []int{255, 256, 257, 261, 1000, 1 << 16, 1<<16 + 1, 1<<16 + 3, 1 << 31, 1<<31 - 1, 1<<31 + 1, 1 << 32, 1<<32 + 1, 1<<32 + 3, 1<<32 + 5, 1<<32 + 12, 1<<32 + 33, 1 << 40, 1<<40 + 1, math.MaxInt, math.MaxInt - 1, math.MinInt, math.MinInt + 1, math.MinInt + 2, math.MinInt + 3}
	for _, n := range []int{2, 3, 6, 8, 11, 16, 33, 48, 66, 88, 144, 176, 198, 352, 38016} {
		l = append(l, math.MaxInt/n, math.MaxInt/n+1, math.MaxInt/n+2, math.MaxInt/n*2, math.MaxInt/n*2+1, math.MaxInt/n*2+2, math.MaxInt/n*2+3)
	}
	for shift := 56; shift < 63; shift++ {
		l = append(l, 1<<shift, 1<<shift+1, 1<<shift+3, 1<<shift+5)
	}
	for _, n := range slices.Clone(l) {
		l = append(l, -n)
	}
	return l
}

// noFormats tells what is no format.
func noFormats() []int {
	return append([]int{-1, 2, -2, 3, 4, 5, 7, 8, 16, 144, 176, 288, 352}, far()...)
}

// noGroups tells what is no group of a format: neither its own number, nor 0 (of which Next tells the first one).
func noGroups(format int) []int {
	l := append([]int{-1, -2, -3, -5, -11, -12, -13, 13, 14, 15, 16, 17, 33, 48, 64}, far()...)
	if format == api.QCIF {
		return append(l, 2, 4, 6, 7, 8, 9, 10, 11, 12)
	}
	return l
}

// noAddresses tells what is no address.
func noAddresses() []int {
	return append([]int{0, 34, -1, -2, -11, -12, -32, -33, -34, 35, 44, 45, 64, 65, 66}, far()...)
}

// noBlocks tells what is no block.
func noBlocks() []int {
	return append([]int{0, 7, -1, -2, -5, -6, -7, 8, 9, 12, 13, 16}, far()...)
}

// size looks whether Size answers just this.
func size(t *testing.T, format, width, height, many int, err api.Errno) {
	t.Helper()
	if w, h, n, e := frame.Size(format); w != width || h != height || n != many || e != err {
		t.Fatalf("Size(%d): %d, %d, %d, %d, not %d, %d, %d, %d", format, w, h, n, e, width, height, many, err)
	}
}

// groups looks whether Groups answers just this.
func groups(t *testing.T, format int, want []int, err api.Errno) {
	t.Helper()
	if l, e := frame.Groups(format); !slices.Equal(l, want) || e != err {
		t.Fatalf("Groups(%d): %v, %d, not %v, %d", format, l, e, want, err)
	}
}

// next looks whether Next answers just this.
func next(t *testing.T, format, group, want int, err api.Errno) {
	t.Helper()
	if n, e := frame.Next(format, group); n != want || e != err {
		t.Fatalf("Next(%d, %d): %d, %d, not %d, %d", format, group, n, e, want, err)
	}
}

// stands looks whether Corner answers just this.
func stands(t *testing.T, format, group, address, right, down int, err api.Errno) {
	t.Helper()
	if x, y, e := frame.Corner(format, group, address); x != right || y != down || e != err {
		t.Fatalf("Corner(%d, %d, %d): %d, %d, %d, not %d, %d, %d", format, group, address, x, y, e, right, down, err)
	}
}

// lies looks whether Place answers just this.
func lies(t *testing.T, format, group, address, block, place, row int, err api.Errno) {
	t.Helper()
	if at, n, e := frame.Place(format, group, address, block); at != place || n != row || e != err {
		t.Fatalf("Place(%d, %d, %d, %d): %d, %d, %d, not %d, %d, %d", format, group, address, block, at, n, e, place, row, err)
	}
}

// refused looks whether Corner and Place, of each block that is handed in, answer just this error.
func refused(t *testing.T, format, group, address int, err api.Errno, blocks ...int) {
	t.Helper()
	stands(t, format, group, address, 0, 0, err)
	for _, block := range blocks {
		lies(t, format, group, address, block, 0, 0, err)
	}
}

func TestExamples(t *testing.T) {
	size(t, 0, 176, 144, 38016, api.OK)
	size(t, 1, 352, 288, 152064, api.OK)
	size(t, 2, 0, 0, 0, api.ErrRange)
	groups(t, 0, []int{1, 3, 5}, api.OK)
	next(t, 0, 0, 1, api.OK)
	next(t, 0, 3, 5, api.OK)
	next(t, 1, 12, 0, api.OK)
	next(t, 0, 2, 0, api.ErrOrder)
	stands(t, 0, 3, 12, 0, 64, api.OK)
	stands(t, 1, 4, 33, 336, 80, api.OK)
	stands(t, 0, 2, 1, 0, 0, api.ErrOrder)
	stands(t, 1, 1, 34, 0, 0, api.ErrAddress)
	lies(t, 0, 1, 1, 4, 1416, 176, api.OK)
	lies(t, 0, 1, 2, 5, 25352, 88, api.OK)
	lies(t, 1, 12, 33, 6, 150824, 176, api.OK)
	lies(t, 0, 1, 1, 7, 0, 0, api.ErrRange)
}

// TestSizes holds each size against the samples of all planes, and that of the greater pictures against a frame's bytes.
func TestSizes(t *testing.T) {
	for _, format := range formats() {
		width, height := planeSize(format, 0)
		size(t, format, width, height, len(samples(format)), api.OK)
	}
	if _, _, n, _ := frame.Size(api.CIF); n != api.FrameBytes {
		t.Error("a frame has", api.FrameBytes, "bytes, a picture", n)
	}
}

func TestGroups(t *testing.T) {
	groups(t, api.QCIF, []int{1, 3, 5}, api.OK)
	groups(t, api.CIF, []int{1, 2, 3, 4, 5, 6, 7, 8, 9, 10, 11, 12}, api.OK)
}

// TestNextGoesThroughAll begins at 0, and comes back to it behind the last group.
func TestNextGoesThroughAll(t *testing.T) {
	for _, format := range formats() {
		group := 0
		for _, c := range corners(format) {
			next(t, format, group, c.group, api.OK)
			group = c.group
		}
		next(t, format, group, 0, api.OK)
	}
	for group := 1; group < 12; group++ {
		next(t, api.CIF, group, group+1, api.OK)
	}
	next(t, api.QCIF, 1, 3, api.OK)
	next(t, api.QCIF, 5, 0, api.OK)
}

// TestEdgesOfCorners asks for the addresses at both ends of each row, of the first and the last group.
func TestEdgesOfCorners(t *testing.T) {
	for i, address := range []int{1, 11, 12, 22, 23, 33} {
		right, down := []int{0, 160}[i%2], []int{0, 16, 32}[i/2]
		stands(t, api.QCIF, 1, address, right, down, api.OK)
		stands(t, api.QCIF, 5, address, right, 96+down, api.OK)
		stands(t, api.CIF, 1, address, right, down, api.OK)
		stands(t, api.CIF, 2, address, 176+right, down, api.OK)
		stands(t, api.CIF, 12, address, 176+right, 240+down, api.OK)
	}
}

// TestCorners asks for each address of each group of both formats.
func TestCorners(t *testing.T) {
	for _, format := range formats() {
		for _, c := range corners(format) {
			for i, step := range steps() {
				stands(t, format, c.group, i+1, c.x+step[0], c.y+step[1], api.OK)
			}
		}
	}
}

// TestRowsAreWide looks whether a group's rows of macroblocks are 176 samples wide, and a group three of them high.
func TestRowsAreWide(t *testing.T) {
	for _, format := range formats() {
		for _, c := range corners(format) {
			for _, row := range []int{1, 12, 23} {
				x, y, _ := frame.Corner(format, c.group, row)
				if last, same, e := frame.Corner(format, c.group, row+10); last+16-x != 176 || same != y || e != api.OK {
					t.Error(format, c.group, row, "ends at", last, same, e)
				}
			}
			_, first, _ := frame.Corner(format, c.group, 1)
			if _, last, e := frame.Corner(format, c.group, 33); last+16-first != 48 || e != api.OK {
				t.Error(format, c.group, "ends at", last, e)
			}
		}
	}
}

// TestEdgesOfPlaces asks for each block of the first and the last macroblock of a picture.
func TestEdgesOfPlaces(t *testing.T) {
	for _, x := range []struct {
		format, group, address int
		at                     [6]int
	}{
		{api.QCIF, 1, 1, [6]int{0, 8, 1408, 1416, 25344, 31680}},
		{api.QCIF, 1, 11, [6]int{160, 168, 1568, 1576, 25424, 31760}},
		{api.QCIF, 1, 12, [6]int{2816, 2824, 4224, 4232, 26048, 32384}},
		{api.QCIF, 3, 1, [6]int{8448, 8456, 9856, 9864, 27456, 33792}},
		{api.QCIF, 5, 33, [6]int{22688, 22696, 24096, 24104, 31056, 37392}},
		{api.CIF, 1, 1, [6]int{0, 8, 2816, 2824, 101376, 126720}},
		{api.CIF, 1, 33, [6]int{11424, 11432, 14240, 14248, 104272, 129616}},
		{api.CIF, 2, 1, [6]int{176, 184, 2992, 3000, 101464, 126808}},
		{api.CIF, 3, 1, [6]int{16896, 16904, 19712, 19720, 105600, 130944}},
		{api.CIF, 12, 33, [6]int{96080, 96088, 98896, 98904, 125480, 150824}},
	} {
		row := 176 * (1 + x.format)
		for i, at := range x.at {
			if i == 4 {
				row /= 2
			}
			lies(t, x.format, x.group, x.address, i+1, at, row, api.OK)
		}
	}
}

// TestPlaces asks for each block of each macroblock of each group of both formats.
func TestPlaces(t *testing.T) {
	for _, format := range formats() {
		places := map[sample]int{}
		for i, s := range samples(format) {
			places[s] = i
		}
		for _, c := range corners(format) {
			for i, step := range steps() {
				for block := 1; block <= 6; block++ {
					s := firstOf(c.x+step[0], c.y+step[1], block)
					row, _ := planeSize(format, s.plane)
					lies(t, format, c.group, i+1, block, places[s], row, api.OK)
				}
			}
		}
	}
}

// TestEachByteOnce goes through all samples of all blocks that the package itself tells: they are a picture's bytes, each once, and no block leaves its plane or its row.
func TestEachByteOnce(t *testing.T) {
	for _, format := range formats() {
		_, _, many, _ := frame.Size(format)
		all := samples(format)
		seen := make([]int, many)
		l, _ := frame.Groups(format)
		for _, group := range l {
			for address := 1; address <= 33; address++ {
				for block := 1; block <= 6; block++ {
					at, row, e := frame.Place(format, group, address, block)
					if e != api.OK {
						t.Fatal(format, group, address, block, e)
					}
					for i := range 64 {
						x, y := i%8, i/8
						place, first := at+row*y+x, all[at]
						if all[place] != (sample{first.plane, first.x + x, first.y + y}) {
							t.Fatal(format, group, address, block, "has", all[place], "at", x, y, "behind", first)
						}
						seen[place]++
					}
				}
			}
		}
		if many != len(all) || slices.ContainsFunc(seen, func(n int) bool { return n != 1 }) {
			t.Error("not each byte once in", format)
		}
	}
}

// TestBlocksStandAtTheirCorner holds each luma block against its macroblock's corner, and both chroma blocks against its half.
func TestBlocksStandAtTheirCorner(t *testing.T) {
	for _, format := range formats() {
		all := samples(format)
		for _, c := range corners(format) {
			for address := 1; address <= 33; address++ {
				x, y, _ := frame.Corner(format, c.group, address)
				for block := 1; block <= 6; block++ {
					if at, _, e := frame.Place(format, c.group, address, block); e != api.OK || all[at] != firstOf(x, y, block) {
						t.Fatal(format, c.group, address, block, all[at], e)
					}
				}
			}
		}
	}
}

// TestFormatsRefused hands what is no format, with whatever else.
func TestFormatsRefused(t *testing.T) {
	for _, format := range noFormats() {
		size(t, format, 0, 0, 0, api.ErrRange)
		groups(t, format, nil, api.ErrRange)
		for _, group := range []int{0, 1, 2, 3, 5, 12, 13, -1, math.MaxInt, math.MinInt} {
			next(t, format, group, 0, api.ErrRange)
			for _, address := range []int{0, 1, 33, 34, -1, math.MaxInt, math.MinInt} {
				refused(t, format, group, address, api.ErrRange, 0, 1, 6, 7, -1, math.MaxInt, math.MinInt)
			}
		}
	}
}

// TestGroupsRefused hands what is no group of a format, with whatever addresses and blocks.
func TestGroupsRefused(t *testing.T) {
	for _, format := range formats() {
		for _, group := range noGroups(format) {
			next(t, format, group, 0, api.ErrOrder)
		}
		for _, group := range append(noGroups(format), 0) {
			for _, address := range []int{0, 1, 12, 33, 34, -1, math.MaxInt, math.MinInt} {
				refused(t, format, group, address, api.ErrOrder, 0, 1, 5, 6, 7, -1, math.MaxInt, math.MinInt)
			}
		}
	}
}

// TestAddressesRefused hands what is no address to each group, with whatever blocks.
func TestAddressesRefused(t *testing.T) {
	for _, format := range formats() {
		for _, c := range corners(format) {
			for _, address := range noAddresses() {
				refused(t, format, c.group, address, api.ErrAddress, 0, 1, 5, 6, 7, -1, math.MaxInt, math.MinInt)
			}
		}
	}
}

// TestBlocksRefused hands what is no block to macroblocks at all edges.
func TestBlocksRefused(t *testing.T) {
	for _, format := range formats() {
		for _, c := range corners(format) {
			for _, address := range []int{1, 2, 11, 12, 22, 23, 33} {
				for _, block := range noBlocks() {
					lies(t, format, c.group, address, block, 0, 0, api.ErrRange)
				}
			}
		}
	}
}

// TestOrderOfErrors hands small numbers, right and wrong ones, in all ways they go together.
func TestOrderOfErrors(t *testing.T) {
	seen := map[api.Errno]int{}
	for format := -1; format <= 2; format++ {
		for group := -1; group <= 13; group++ {
			for _, address := range []int{-1, 0, 1, 33, 34} {
				for _, block := range []int{-1, 0, 1, 6, 7} {
					want := plainError(format, group, address, block)
					_, _, e := frame.Place(format, group, address, block)
					if e != want {
						t.Fatal(format, group, address, block, e, "not", want)
					}
					if e != api.OK {
						lies(t, format, group, address, block, 0, 0, want)
					}
					seen[e]++
				}
			}
		}
	}
	if len(seen) != 4 {
		t.Error("some error never came", seen)
	}
}

// plainError tells the first error of a place, by the words of the promises.
func plainError(format, group, address, block int) api.Errno {
	switch {
	case format != 0 && format != 1:
		return api.ErrRange
	case !slices.ContainsFunc(corners(format), func(c corner) bool { return c.group == group }):
		return api.ErrOrder
	case address < 1 || address > 33:
		return api.ErrAddress
	case block < 1 || block > 6:
		return api.ErrRange
	default:
		return api.OK
	}
}

// TestGroupsAreNew changes what was answered, and its spare room: neither an earlier answer nor a later one changes.
func TestGroupsAreNew(t *testing.T) {
	for _, format := range formats() {
		kept, _ := frame.Groups(format)
		want := slices.Clone(kept)
		for range 3 {
			l, e := frame.Groups(format)
			if e != api.OK || !slices.Equal(l, want) {
				t.Fatal(format, l, e)
			}
			l = l[:cap(l)]
			for i := range l {
				l[i] = -1
			}
			if !slices.Equal(kept, want) {
				t.Fatal("an answer changed", kept)
			}
			for i, c := range corners(format) {
				stands(t, format, c.group, 1, c.x, c.y, api.OK)
				if kept[i] != c.group {
					t.Fatal(kept)
				}
			}
		}
	}
}

// TestAnswersStay asks again and again, also for wrong things: no call tells on another one.
func TestAnswersStay(t *testing.T) {
	for range 50 {
		for _, format := range formats() {
			width, height := planeSize(format, 0)
			refused(t, format, 13, 1, api.ErrOrder, 1)
			refused(t, 2-3*format, 1, 1, api.ErrRange, 1)
			refused(t, format, 1, 34, api.ErrAddress, 1)
			lies(t, format, 1, 33, 7, 0, 0, api.ErrRange)
			next(t, format, 14, 0, api.ErrOrder)
			next(t, format, 0, 1, api.OK)
			stands(t, format, 5, 23, 0, 128, api.OK)
			size(t, format, width, height, width*height*3/2, api.OK)
			lies(t, format, 1, 2, 5, width*height+8, width/2, api.OK)
		}
	}
}
