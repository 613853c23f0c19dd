package octet

import (
	"bytes"
	"math"
	"strings"
	"testing"

	"signpost/api"
)

func badWidths() []int { return []int{math.MinInt, -1, 0, 9, 64, math.MaxInt} }

// roomy has spare room behind its length, which no call may write into.
func roomy(s string) (b, all []byte) {
	all = append([]byte(s), bytes.Repeat([]byte{0xee}, 2000)...)
	return all[:len(s)], all
}

func TestPut(t *testing.T) { // P1.1
	for _, c := range []struct {
		b     string
		n     uint64
		width int
		want  string
	}{
		{"", 258, 3, "\x00\x01\x02"},
		{"x", 258, 3, "x\x00\x01\x02"},
		{"", 0x1ff, 1, "\xff"},
		{"ab", 0, 1, "ab\x00"},
		{"", 0x0102030405060708, 8, "\x01\x02\x03\x04\x05\x06\x07\x08"},
		{"", 0x0102030405060708, 7, "\x02\x03\x04\x05\x06\x07\x08"},
		{"", 0x0102030405060708, 2, "\x07\x08"},
		{"", math.MaxUint64, 8, strings.Repeat("\xff", 8)},
	} {
		if got := Put([]byte(c.b), c.n, c.width); string(got) != c.want {
			t.Errorf("Put(%q, %d, %d) = %q, want %q", c.b, c.n, c.width, got, c.want)
		}
	}
	for _, width := range badWidths() {
		if got := Put([]byte("ab"), 7, width); string(got) != "ab" {
			t.Errorf("width %d: %q", width, got)
		}
		if got := Put(nil, 7, width); len(got) != 0 {
			t.Errorf("width %d of nil: %q", width, got)
		}
	}
}

func TestGet(t *testing.T) { // P1.1
	b := []byte("\x01\x02\x03\x04\x05\x06\x07\x08\x09")
	for _, c := range []struct {
		at, width int
		want      uint64
	}{
		{0, 1, 1}, {8, 1, 9}, {0, 2, 0x0102}, {7, 2, 0x0809},
		{0, 8, 0x0102030405060708}, {1, 8, 0x0203040506070809}, {3, 3, 0x040506},
	} {
		if n, ok := Get(b, c.at, c.width); n != c.want || !ok {
			t.Errorf("Get(%d, %d) = %#x, %v", c.at, c.width, n, ok)
		}
	}
	for _, c := range [][2]int{
		{2, 8}, {8, 2}, {9, 1}, {10, 1}, {-1, 1}, {-1, 8}, {math.MinInt, 1}, {math.MaxInt, 1}, {math.MaxInt, 8}, {math.MaxInt - 3, 8},
	} {
		if n, ok := Get(b, c[0], c[1]); n != 0 || ok {
			t.Errorf("Get(%d, %d) = %d, %v", c[0], c[1], n, ok)
		}
	}
	for _, width := range badWidths() {
		if n, ok := Get(b, 0, width); n != 0 || ok {
			t.Errorf("width %d: %d, %v", width, n, ok)
		}
	}
	if n, ok := Get(nil, 0, 1); n != 0 || ok {
		t.Errorf("of nil: %d, %v", n, ok)
	}
	short, _ := roomy("ab")
	if n, ok := Get(short, 1, 2); n != 0 || ok {
		t.Errorf("behind the length: %d, %v", n, ok)
	}
}

func TestText(t *testing.T) { // P1.2
	long := strings.Repeat("y", api.MaxText)
	for _, c := range []struct{ b, s, want string }{
		{"", "ab", "\x00\x02ab"},
		{"x", "", "x\x00\x00"},
		{"x", "\x00\xff", "x\x00\x02\x00\xff"},
		{"", long[:256], "\x01\x00" + long[:256]},
		{"x", long, "x\x04\x00" + long},
	} {
		if got, e := Text([]byte(c.b), c.s); string(got) != c.want || e != api.OK {
			t.Errorf("Text(%q, %d bytes) = %q, %d", c.b, len(c.s), got, int(e))
		}
	}
	for _, s := range []string{long + "y", strings.Repeat("y", 1<<16), strings.Repeat("y", 1<<16+2)} {
		if got, e := Text([]byte("x"), s); len(got) != 0 || e != api.ErrLong {
			t.Errorf("%d bytes: %q, %d", len(s), got, int(e))
		}
	}
}

func TestArgumentsStay(t *testing.T) { // rules 4 and 8
	b, all := roomy("ab")
	before := string(all)
	put := Put(b, math.MaxUint64, 8)
	text, _ := Text(b, "cd")
	same := Put(b, 1, 0)
	r := Open(b)
	taken := r.Take(1)
	if string(all) != before {
		t.Errorf("an argument was written into: %q", all[:16])
	}
	for _, got := range [][]byte{put, text, same, taken} {
		for i := range got {
			got[i] = 'z'
		}
	}
	if string(all) != before {
		t.Errorf("a result shares memory with an argument: %q", all[:16])
	}
	b[1] = 'q'
	_ = append(taken, "q"...)
	if got := r.Take(1); string(got) != "b" {
		t.Errorf("a reader shares memory with its caller: %q", got)
	}
	if r.Take(1); !r.Bad() {
		t.Error("a reader reads behind the length")
	}
}
