package bits_test

import (
	"math"
	"strconv"
	"strings"
	"testing"

	"praxinoscope/api"
	"praxinoscope/bits"
)

// spell tells the bits of b as a text, by the library alone.
func spell(b []byte) string {
	s := ""
	for _, x := range b {
		t := strconv.FormatInt(int64(x), 2)
		s += strings.Repeat("0", 8-len(t)) + t
	}
	return s
}

// pack tells the bytes of a text of bits, with noughts behind it.
func pack(s string) []byte {
	s += strings.Repeat("0", (8-len(s)%8)%8)
	var b []byte
	for i := 0; i < len(s); i += 8 {
		n, err := strconv.ParseUint(s[i:i+8], 2, 8)
		if err != nil {
			panic(err)
		}
		b = append(b, byte(n))
	}
	return b
}

// chance is a row of numbers that look like chance and are always the same.
type chance uint64

func (c *chance) below(n int) int {
	*c = *c*6364136223846793005 + 1442695040888963407
	return int(uint64(*c) >> 33 % uint64(n))
}

// scarce tells bytes most of whose bits are noughts, so that start codes are in them.
func (c *chance) scarce(n int) []byte {
	b := make([]byte, n)
	for i := range b {
		if c.below(3) == 0 {
			b[i] = byte(1 << c.below(8))
		}
	}
	return b
}

func TestCount(t *testing.T) {
	for _, n := range []int{0, 1, 2, 7, 1000} {
		if got := bits.Count(make([]byte, n)); got != 8*n {
			t.Errorf("Count of %d bytes: %d", n, got)
		}
	}
	if got := bits.Count(nil); got != 0 {
		t.Errorf("Count of none: %d", got)
	}
}

func TestRead(t *testing.T) {
	ones := []byte{255, 255, 255, 255, 255}
	for _, x := range []struct {
		b           []byte
		at, n, want int
		err         api.Errno
	}{
		{[]byte{165, 3}, 0, 4, 10, api.OK},
		{[]byte{165, 3}, 6, 5, 8, api.OK},
		{[]byte{165, 3}, 0, 16, 165*256 + 3, api.OK},
		{[]byte{165, 3}, 15, 1, 1, api.OK},
		{[]byte{165}, 0, 8, 165, api.OK},
		{[]byte{165}, 3, 0, 0, api.OK},
		{[]byte{165}, 8, 0, 0, api.OK},
		{[]byte{165}, 9, 0, 0, api.OK},
		{[]byte{165}, math.MaxInt, 0, 0, api.OK},
		{nil, 0, 0, 0, api.OK},
		{ones, 0, 32, 1<<32 - 1, api.OK},
		{ones, 8, 32, 1<<32 - 1, api.OK},
		{[]byte{127, 255, 255, 255}, 0, 32, 1<<31 - 1, api.OK},
		{ones, 9, 32, 0, api.ErrMore},
		{[]byte{165}, 8, 1, 0, api.ErrMore},
		{[]byte{165}, 7, 2, 0, api.ErrMore},
		{[]byte{165}, 9, 1, 0, api.ErrMore},
		{nil, 0, 1, 0, api.ErrMore},
		{ones, math.MaxInt, 32, 0, api.ErrMore},
		{ones, math.MaxInt - 31, 32, 0, api.ErrMore},
		{[]byte{165}, 0, 33, 0, api.ErrRange},
		{[]byte{165}, 0, -1, 0, api.ErrRange},
		{[]byte{165}, -1, 1, 0, api.ErrRange},
		{[]byte{165}, -1, 0, 0, api.ErrRange},
		{nil, math.MinInt, 32, 0, api.ErrRange},
		{ones, 0, math.MaxInt, 0, api.ErrRange},
		{ones, 0, math.MinInt, 0, api.ErrRange},
		{ones, math.MaxInt, 33, 0, api.ErrRange},
	} {
		if n, err := bits.Read(x.b, x.at, x.n); n != x.want || err != x.err {
			t.Errorf("Read(%v, %d, %d): %d, %d, not %d, %d", x.b, x.at, x.n, n, err, x.want, x.err)
		}
	}
}

func TestReadEverywhere(t *testing.T) {
	b := []byte{1, 35, 69, 103, 137, 171, 205, 239}
	s := spell(b)
	for at := range len(s) + 1 {
		for n := range 33 {
			want, wantErr := 0, api.OK
			if at+n > len(s) {
				wantErr = api.ErrMore
			} else if n > 0 {
				x, _ := strconv.ParseInt(s[at:at+n], 2, 64)
				want = int(x)
			}
			if got, err := bits.Read(b, at, n); got != want || err != wantErr {
				t.Fatalf("Read(b, %d, %d): %d, %d, not %d, %d", at, n, got, err, want, wantErr)
			}
		}
	}
}

func TestFind(t *testing.T) {
	for _, x := range []struct {
		b          []byte
		from, want int
		err        api.Errno
	}{
		{[]byte{0, 1}, 0, 0, api.OK},
		{[]byte{255, 0, 1}, 0, 8, api.OK},
		{[]byte{0, 0, 1}, 0, 8, api.OK},
		{[]byte{0, 0, 1}, 8, 8, api.OK},
		{[]byte{0, 0, 0, 0, 128}, 0, 17, api.OK},
		{[]byte{128, 0, 128}, 0, 1, api.OK},
		{[]byte{128, 0, 128}, 1, 1, api.OK},
		{[]byte{0, 1, 0, 1}, 1, 16, api.OK},
		{[]byte{0, 2, 0, 1}, 0, 16, api.OK},
		{[]byte{0, 1, 255}, 0, 0, api.OK},
		{[]byte{0, 2}, 0, 0, api.ErrMore},
		{[]byte{0, 0}, 0, 0, api.ErrMore},
		{[]byte{0, 0, 1}, 9, 0, api.ErrMore},
		{[]byte{0, 1, 64}, 1, 0, api.ErrMore},
		{[]byte{0, 1}, 16, 0, api.ErrMore},
		{[]byte{0, 1}, 17, 0, api.ErrMore},
		{[]byte{0, 1}, math.MaxInt, 0, api.ErrMore},
		{[]byte{1}, 0, 0, api.ErrMore},
		{nil, 0, 0, api.ErrMore},
		{nil, 1, 0, api.ErrMore},
		{nil, -1, 0, api.ErrRange},
		{[]byte{0, 1}, -1, 0, api.ErrRange},
		{[]byte{0, 1}, math.MinInt, 0, api.ErrRange},
	} {
		if at, err := bits.Find(x.b, x.from); at != x.want || err != x.err {
			t.Errorf("Find(%v, %d): %d, %d, not %d, %d", x.b, x.from, at, err, x.want, x.err)
		}
	}
}

func TestStart(t *testing.T) {
	for _, x := range []struct {
		b            []byte
		at           int
		number, many int
		err          api.Errno
	}{
		{[]byte{0, 1, 64}, 0, 4, 20, api.OK},
		{[]byte{0, 0, 1, 80}, 0, 5, 28, api.OK},
		{[]byte{0, 0, 1, 80}, 8, 5, 20, api.OK},
		{[]byte{0, 0, 1, 80}, 3, 5, 25, api.OK},
		{[]byte{255, 0, 1, 0}, 8, 0, 20, api.OK},
		{[]byte{0, 1, 255}, 0, 15, 20, api.OK},
		{pack(strings.Repeat("0", 15) + "1" + "1001"), 0, 9, 20, api.OK},
		{pack("0" + strings.Repeat("0", 15) + "1" + "1001"), 0, 9, 21, api.OK},
		{pack("1" + strings.Repeat("0", 15) + "1" + "1001"), 1, 9, 20, api.OK},
		{pack(strings.Repeat("0", 19) + "1" + "1010"), 0, 10, 24, api.OK},
		{pack(strings.Repeat("0", 14) + "1" + "100111111"), 0, 0, 0, api.ErrCode},
		{[]byte{0, 2, 0}, 0, 0, 0, api.ErrCode},
		{[]byte{0, 0, 1, 80}, 9, 0, 0, api.ErrCode},
		{[]byte{0, 1, 64}, 15, 0, 0, api.ErrCode},
		{[]byte{0, 2}, 0, 0, 0, api.ErrCode},
		{[]byte{1}, 7, 0, 0, api.ErrCode},
		{[]byte{128}, 0, 0, 0, api.ErrCode},
		{[]byte{0, 1}, 0, 0, 0, api.ErrMore},
		{pack(strings.Repeat("0", 20) + "1" + "101"), 0, 0, 0, api.ErrMore},
		{pack(strings.Repeat("0", 22) + "1" + "1"), 0, 0, 0, api.ErrMore},
		{[]byte{0, 0}, 0, 0, 0, api.ErrMore},
		{[]byte{0}, 0, 0, 0, api.ErrMore},
		{[]byte{0}, 7, 0, 0, api.ErrMore},
		{[]byte{128}, 1, 0, 0, api.ErrMore},
		{[]byte{255}, 8, 0, 0, api.ErrMore},
		{[]byte{255}, 9, 0, 0, api.ErrMore},
		{[]byte{255}, math.MaxInt, 0, 0, api.ErrMore},
		{nil, 0, 0, 0, api.ErrMore},
		{nil, -1, 0, 0, api.ErrRange},
		{[]byte{0, 1, 64}, -1, 0, 0, api.ErrRange},
		{[]byte{0, 1, 64}, math.MinInt, 0, 0, api.ErrRange},
	} {
		if n, many, err := bits.Start(x.b, x.at); n != x.number || many != x.many || err != x.err {
			t.Errorf("Start(%v, %d): %d, %d, %d, not %d, %d, %d", x.b, x.at, n, many, err, x.number, x.many, x.err)
		}
	}
}

// TestFoundStarts holds Find and Start against each other: where a start code is found one stands, and none ahead.
func TestFoundStarts(t *testing.T) {
	code := strings.Repeat("0", 15) + "1"
	c := chance(1)
	found := 0
	for range 300 {
		b := c.scarce(c.below(12))
		s := spell(b)
		for from := range len(s) + 3 {
			want := -1
			if from <= len(s) {
				want = strings.Index(s[from:], code)
			}
			at, err := bits.Find(b, from)
			if want < 0 {
				if at != 0 || err != api.ErrMore {
					t.Fatalf("Find(%v, %d): %d, %d, but there is none", b, from, at, err)
				}
				continue
			}
			if at != from+want || err != api.OK {
				t.Fatalf("Find(%v, %d): %d, %d, not %d", b, from, at, err, from+want)
			}
			found++
			n, many, err := bits.Start(b, at)
			if at+20 > len(s) {
				if err != api.ErrMore {
					t.Fatalf("Start(%v, %d): %d, but its number lacks bits", b, at, err)
				}
				continue
			}
			number, _ := strconv.ParseInt(s[at+16:at+20], 2, 64)
			if n != int(number) || many != 20 || err != api.OK {
				t.Fatalf("Start(%v, %d): %d, %d, %d, not %d, 20", b, at, n, many, err, number)
			}
		}
	}
	if found == 0 {
		t.Error("nothing was found")
	}
}

// TestStartBehindNoughts puts noughts ahead of starts: they stay starts.
func TestStartBehindNoughts(t *testing.T) {
	for number := range 16 {
		four := strconv.FormatInt(int64(16+number), 2)[1:]
		for more := range 40 {
			for ahead := range 9 {
				s := strings.Repeat("1", ahead) + strings.Repeat("0", 15+more) + "1" + four
				n, many, err := bits.Start(pack(s+"1111"), ahead)
				if n != number || many != 20+more || err != api.OK {
					t.Fatalf("Start(%s, %d): %d, %d, %d", s, ahead, n, many, err)
				}
			}
		}
	}
}

// TestBytesStay looks whether what is handed in stays as it was, and whether what lies behind it is looked at.
func TestBytesStay(t *testing.T) {
	all := []byte{0, 0, 1, 64}
	if n, err := bits.Read(all[:2], 16, 1); n != 0 || err != api.ErrMore {
		t.Error("Read looks behind the end", n, err)
	}
	if at, err := bits.Find(all[:2], 0); at != 0 || err != api.ErrMore {
		t.Error("Find looks behind the end", at, err)
	}
	if _, _, err := bits.Start(all[:3], 0); err != api.ErrMore {
		t.Error("Start looks behind the end", err)
	}
	if spell(all) != "00000000"+"00000000"+"00000001"+"01000000" {
		t.Error("bytes were changed", all)
	}
}
