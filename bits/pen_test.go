package bits_test

import (
	"bytes"
	"math"
	"strconv"
	"strings"
	"testing"

	"praxinoscope/api"
	"praxinoscope/bits"
)

// holds looks whether a pen wrote just the bits of a text.
func holds(t *testing.T, p *bits.Pen, s string) {
	t.Helper()
	if p.Len() != len(s) || !bytes.Equal(p.Bytes(), pack(s)) {
		t.Fatalf("pen has %d bits, %v; not %d, %v", p.Len(), p.Bytes(), len(s), pack(s))
	}
}

func TestPenExamples(t *testing.T) {
	p := bits.NewPen()
	holds(t, p, "")
	if e := p.Put(5, 3); e != api.OK {
		t.Error("Put(5, 3)", e)
	}
	if e := p.Code("0011"); e != api.OK {
		t.Error("Code(0011)", e)
	}
	if p.Len() != 7 || !bytes.Equal(p.Bytes(), []byte{166}) {
		t.Error("Len, Bytes", p.Len(), p.Bytes())
	}
	if e := p.Put(8, 3); e != api.ErrRange {
		t.Error("Put(8, 3)", e)
	}
	if e := p.Code("2"); e != api.ErrForm {
		t.Error("Code(2)", e)
	}
	holds(t, p, "1010011")
}

func TestPutFits(t *testing.T) {
	p, s := bits.NewPen(), ""
	for n := range 33 {
		for _, x := range []int{0, 1, 1<<n - 1, 1 << n >> 1} {
			if x >= 1<<n {
				continue
			}
			if e := p.Put(x, n); e != api.OK {
				t.Fatalf("Put(%d, %d): %d", x, n, e)
			}
			if n > 0 {
				s += strconv.FormatInt(int64(1<<n|x), 2)[1:]
			}
			holds(t, p, s)
		}
	}
}

func TestPutRefuses(t *testing.T) {
	p := bits.NewPen()
	p.Code("101")
	for _, x := range [][2]int{
		{1, 0}, {2, 1}, {8, 3}, {1 << 31, 31}, {1 << 32, 32}, {-1, 0}, {-1, 3}, {-1, 32}, {math.MaxInt, 32}, {math.MinInt, 32},
		{0, -1}, {0, 33}, {0, 64}, {1, 33}, {0, math.MaxInt}, {0, math.MinInt}, {-1, -1},
	} {
		if e := p.Put(x[0], x[1]); e != api.ErrRange {
			t.Errorf("Put(%d, %d): %d", x[0], x[1], e)
		}
		holds(t, p, "101")
	}
}

func TestCode(t *testing.T) {
	p, s := bits.NewPen(), ""
	for _, x := range []string{"", "1", "0", "00000001111", "0000000", "1", strings.Repeat("10", 50), ""} {
		if e := p.Code(x); e != api.OK {
			t.Fatalf("Code(%s): %d", x, e)
		}
		s += x
		holds(t, p, s)
	}
	for _, x := range []string{"2", "/", " ", "0 1", "10x", "x10", "1\n", "\x00", "\x01", "\xff0", "0\xff", "٠", "１", "-1", "+0"} {
		if e := p.Code(x); e != api.ErrForm {
			t.Errorf("Code(%q): %d", x, e)
		}
		holds(t, p, s)
	}
}

// full tells a pen that wrote 2^24 bits but for some, and these bits' bytes.
func full(t *testing.T, lacks int) (*bits.Pen, []byte) {
	t.Helper()
	p := bits.NewPen()
	if e := p.Code(strings.Repeat("01", 1<<23)[:1<<24-lacks]); e != api.OK {
		t.Fatal("Code of many", e)
	}
	b := bytes.Repeat([]byte{85}, 1<<21)
	if lacks > 0 {
		b[len(b)-1] &= 255 << lacks
	}
	return p, b
}

func TestPenIsFull(t *testing.T) {
	p, b := full(t, 0)
	for _, x := range []struct {
		got, want api.Errno
	}{
		{p.Put(0, 1), api.ErrLong},
		{p.Put(1<<32-1, 32), api.ErrLong},
		{p.Put(2, 1), api.ErrRange},
		{p.Put(0, 33), api.ErrRange},
		{p.Code("0"), api.ErrLong},
		{p.Code("2"), api.ErrForm},
		{p.Code(strings.Repeat("1", 40) + "2"), api.ErrForm},
		{p.Put(0, 0), api.OK},
		{p.Code(""), api.OK},
	} {
		if x.got != x.want {
			t.Errorf("a full pen answers %d, not %d", x.got, x.want)
		}
	}
	if p.Len() != 1<<24 || !bytes.Equal(p.Bytes(), b) {
		t.Error("a full pen was changed", p.Len())
	}
}

func TestPenIsNearlyFull(t *testing.T) {
	p, b := full(t, 3)
	if e := p.Put(0, 4); e != api.ErrLong {
		t.Error("Put of four bits", e)
	}
	if e := p.Code("1111"); e != api.ErrLong {
		t.Error("Code of four bits", e)
	}
	if p.Len() != 1<<24-3 || !bytes.Equal(p.Bytes(), b) {
		t.Error("what was refused was written", p.Len())
	}
	if e := p.Put(3, 2); e != api.OK {
		t.Error("Put of two bits", e)
	}
	if e := p.Code("1"); e != api.OK {
		t.Error("Code of one bit", e)
	}
	b[len(b)-1] |= 7
	if p.Len() != 1<<24 || !bytes.Equal(p.Bytes(), b) {
		t.Error("what was taken was not written", p.Len())
	}
	if e := bits.NewPen().Code(strings.Repeat("0", 1<<24+1)); e != api.ErrLong {
		t.Error("Code of too many", e)
	}
}

// TestPenThatIsNone asks pens that NewPen did not answer: a copy of one is none either, for it would share its bytes.
func TestPenThatIsNone(t *testing.T) {
	p := bits.NewPen()
	p.Code("1011")
	twin := *p
	for name, none := range map[string]*bits.Pen{"nil": nil, "zero": {}, "new": new(bits.Pen), "copy": &twin} {
		for _, e := range []api.Errno{none.Put(1, 1), none.Put(0, 0), none.Put(8, 3), none.Put(0, 33), none.Code("1"), none.Code(""), none.Code("2")} {
			if e != api.ErrNil {
				t.Errorf("%s: %d", name, e)
			}
		}
		if none.Len() != 0 || len(none.Bytes()) != 0 {
			t.Errorf("%s: %d, %v", name, none.Len(), none.Bytes())
		}
	}
	holds(t, p, "1011")
}

// TestPenGivesNewMemory changes what a pen answered, its spare room too: neither the pen nor a later answer may tell.
func TestPenGivesNewMemory(t *testing.T) {
	p := bits.NewPen()
	p.Code("10110")
	a, b := p.Bytes(), p.Bytes()
	a = a[:cap(a)]
	for i := range a {
		a[i] = 255
	}
	p.Code("01")
	if !bytes.Equal(b, []byte{176}) {
		t.Error("an answer was changed", b)
	}
	holds(t, p, "1011001")
	q := bits.NewPen()
	q.Code("1")
	holds(t, p, "1011001")
	holds(t, q, "1")
}

// TestWrittenIsRead writes numbers and texts by turns, and reads them as they were.
func TestWrittenIsRead(t *testing.T) {
	c := chance(7)
	for range 200 {
		p, all := bits.NewPen(), ""
		for range c.below(20) {
			n := c.below(33)
			x := (c.below(1<<31)<<1 | c.below(2)) & (1<<n - 1)
			at := p.Len()
			text := strconv.FormatInt(int64(1<<n|x), 2)[1:]
			e := p.Put(x, n)
			if c.below(2) == 0 {
				e = max(e, p.Code(text))
				all += text
			}
			all += text
			if e != api.OK {
				t.Fatalf("writing %s: %d", text, e)
			}
			if got, err := bits.Read(p.Bytes(), at, n); got != x || err != api.OK {
				t.Fatalf("%d in %d bits is read as %d, %d", x, n, got, err)
			}
			if got, err := bits.Read(p.Bytes(), p.Len()-n, n); got != x || err != api.OK {
				t.Fatalf("%s at the end is read as %d, %d", text, got, err)
			}
		}
		holds(t, p, all)
	}
}

// TestWrittenStartIsFound writes a start behind bits that hold none.
func TestWrittenStartIsFound(t *testing.T) {
	for ahead := range 20 {
		for number := range 16 {
			p := bits.NewPen()
			p.Code(strings.Repeat("1", ahead))
			p.Put(1, 16)
			p.Put(number, 4)
			at, err := bits.Find(p.Bytes(), 0)
			if at != ahead || err != api.OK {
				t.Fatalf("a start behind %d ones is found at %d, %d", ahead, at, err)
			}
			if n, many, err := bits.Start(p.Bytes(), at); n != number || many != 20 || err != api.OK {
				t.Fatalf("the start of %d is read as %d, %d, %d", number, n, many, err)
			}
		}
	}
}
