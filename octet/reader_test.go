package octet

import (
	"bytes"
	"math"
	"math/rand"
	"strings"
	"testing"

	"signpost/api"
)

func TestReadInOrder(t *testing.T) { // P1.3, P1.4
	r := Open([]byte("\x01\x00\x02\x00\x03abcdef\x00\x00"))
	if r.Bad() || r.Left() != 13 || r.Done() != api.ErrForm {
		t.Fatal("a new reader", r.Left())
	}
	if n := r.Num(1); n != 1 || r.Left() != 12 {
		t.Error(n, r.Left())
	}
	if n := r.Num(2); n != 2 || r.Left() != 10 {
		t.Error(n, r.Left())
	}
	if s := r.Text(3); s != "abc" || r.Left() != 5 {
		t.Error(s, r.Left())
	}
	if b := r.Take(0); len(b) != 0 || r.Bad() || r.Left() != 5 {
		t.Error(b, r.Left())
	}
	if b := r.Take(3); string(b) != "def" || r.Left() != 2 || r.Done() != api.ErrForm {
		t.Error(b, r.Left())
	}
	if s := r.Text(0); s != "" || r.Bad() || r.Left() != 0 || r.Done() != api.OK {
		t.Error(s, r.Left(), int(r.Done()))
	}
	if b := r.Take(0); len(b) != 0 || r.Bad() || r.Done() != api.OK {
		t.Error("no bytes at the end")
	}
}

func TestReadNothing(t *testing.T) { // P1.4
	for _, b := range [][]byte{nil, {}} {
		if r := Open(b); r.Bad() || r.Left() != 0 || r.Done() != api.OK {
			t.Error(b == nil, r.Bad(), r.Left(), int(r.Done()))
		}
	}
}

// isSpoilt holds a reader against all that is promised of it behind its first failure.
func isSpoilt(r *Reader) bool {
	quiet := func() bool {
		return r.Num(1) == 0 && r.Num(0) == 0 && len(r.Take(1)) == 0 && len(r.Take(0)) == 0 && r.Text(5) == "" && r.Text(-1) == ""
	}
	return r.Bad() && r.Left() == 0 && r.Done() == api.ErrForm && quiet() && r.Bad() && r.Left() == 0 && r.Done() == api.ErrForm
}

func TestNumFails(t *testing.T) { // P1.3
	for _, width := range append(badWidths(), 8) {
		r := Open([]byte("1234567"))
		if n := r.Num(width); n != 0 || !isSpoilt(r) {
			t.Errorf("width %d: %d", width, n)
		}
	}
	r := Open([]byte("12345678"))
	if n := r.Num(8); n != 0x3132333435363738 || r.Done() != api.OK {
		t.Errorf("%#x", n)
	}
	if n := r.Num(1); n != 0 || !isSpoilt(r) {
		t.Error("behind the end", n)
	}
}

func TestTakeFails(t *testing.T) { // P1.3
	for _, n := range []int{math.MinInt, -1, 4, math.MaxInt} {
		r := Open([]byte("abc"))
		if b := r.Take(n); len(b) != 0 || !isSpoilt(r) {
			t.Errorf("%d: %q", n, b)
		}
	}
	r := Open([]byte("abc"))
	if b := r.Take(3); string(b) != "abc" || r.Done() != api.OK {
		t.Errorf("%q", b)
	}
}

func TestTextFails(t *testing.T) { // P1.3
	long := strings.Repeat("y", api.MaxText)
	for _, c := range []struct {
		b    string
		most int
	}{
		{"", 5}, {"\x00", 5}, {"\x00\x01", 5}, {"\x00\x03ab", 5}, {"\xff\xffab", math.MaxInt},
		{"\x00\x02ab", 1}, {"\x00\x02ab", 0}, {"\x00\x02ab", -1}, {"\x00\x00", -1}, {"\x00\x00", math.MinInt},
		{"\x04\x01" + long + "y", math.MaxInt}, {"\x04\x01" + long + "y", 1025}, {"\x04\x00" + long, 1023},
	} {
		r := Open([]byte(c.b))
		if s := r.Text(c.most); s != "" || !isSpoilt(r) {
			t.Errorf("%.8q, at most %d: %q", c.b, c.most, s)
		}
	}
	for _, most := range []int{1024, 1025, math.MaxInt} {
		r := Open([]byte("\x04\x00" + long + "z"))
		if s := r.Text(most); s != long || r.Left() != 1 || r.Bad() {
			t.Errorf("at most %d: %d bytes", most, len(s))
		}
	}
}

func TestNoReader(t *testing.T) { // P1.4, rule 1
	for _, r := range []*Reader{nil, {}, new(Reader)} {
		check := func() {
			if !r.Bad() || r.Left() != 0 || r.Done() != api.ErrNil {
				t.Error(r == nil, r.Bad(), r.Left(), int(r.Done()))
			}
		}
		check()
		if r.Num(1) != 0 || r.Num(9) != 0 || len(r.Take(0)) != 0 || len(r.Take(-1)) != 0 || r.Text(1) != "" || r.Text(-1) != "" {
			t.Error("it reads")
		}
		check()
	}
}

func TestRoundTrip(t *testing.T) { // P1.5
	for width := 1; width <= 8; width++ {
		for _, n := range []uint64{0, 1, 255, 256, 1<<32 - 1, 1 << 40, math.MaxUint64} {
			want := n & (math.MaxUint64 >> (64 - 8*width))
			b := Put([]byte("head"), n, width)
			b, _ = Text(b, "tail")
			r := Open(b)
			if got, ok := Get(b, 4, width); got != want || !ok {
				t.Errorf("Get: %d of width %d: %d", n, width, got)
			}
			if r.Take(4); r.Num(width) != want || r.Text(4) != "tail" || r.Done() != api.OK {
				t.Errorf("Num: %d of width %d", n, width)
			}
		}
	}
	for _, size := range []int{0, 1, 255, 256, 1023, 1024} {
		s := strings.Repeat("\xc3", size)
		b, _ := Text(nil, s)
		if r := Open(b); r.Text(size) != s || r.Done() != api.OK {
			t.Error(size)
		}
	}
}

// again reads b by the steps and writes what it read; it tells whether b was read to its end.
func again(b, steps []byte) ([]byte, bool) {
	r := Open(b)
	var out []byte
	for _, s := range steps {
		switch s % 3 {
		case 0:
			width := 1 + int(s/3)%8
			if n := r.Num(width); !r.Bad() {
				out = Put(out, n, width)
			}
		case 1:
			out = append(out, r.Take(int(s/3)%5)...)
		default:
			if text := r.Text(api.MaxText); !r.Bad() {
				out, _ = Text(out, text)
			}
		}
	}
	return out, r.Done() == api.OK
}

func TestOneEncoding(t *testing.T) { // P1.6
	random := rand.New(rand.NewSource(1))
	whole := 0
	for range 20000 {
		b := make([]byte, random.Intn(12))
		for i := range b {
			b[i] = byte(random.Intn(4))
		}
		steps := make([]byte, random.Intn(6))
		random.Read(steps)
		got, ok := again(b, steps)
		if ok && !bytes.Equal(got, b) {
			t.Fatalf("%q by %v: %q", b, steps, got)
		}
		if ok {
			whole++
		}
	}
	if whole < 100 {
		t.Error("too few were read to their end:", whole)
	}
}
