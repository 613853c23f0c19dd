package draw

import (
	"bytes"
	"fmt"
	"math"
	"math/big"
	"math/rand"
	"slices"
	"testing"

	"signpost/api"
)

// counted has n bytes, none of them 0, so that a byte that was read is told from one that was not there.
func counted(n int) []byte {
	b := make([]byte, n)
	for i := range b {
		b[i] = byte(1 + i%255)
	}
	return b
}

// rest reads all that is left, and nothing of s itself.
func rest(s *Source) []byte {
	c := s.Clone()
	var out []byte
	for c.Left() > 0 {
		out = append(out, c.Byte())
	}
	return out
}

// notMade are sources that New did not return.
func notMade() []*Source { return []*Source{nil, {}, new(Source)} }

// plain is a source, word by word of the promises.
type plain []byte

func (p *plain) next() byte {
	if len(*p) == 0 {
		return 0
	}
	b := (*p)[0]
	*p = (*p)[1:]
	return b
}

func (p *plain) take(n int) []byte {
	var out []byte
	for len(out) < n && len(out) < 1024 {
		out = append(out, p.next())
	}
	return out
}

func (p *plain) num(n int) int {
	if n < 2 {
		return 0
	}
	most := big.NewInt(int64(n - 1))
	drawn := new(big.Int).SetBytes(p.take(len(most.Bytes())))
	return int(drawn.Mod(drawn, big.NewInt(int64(n))).Int64())
}

func (p *plain) order(n int) []int {
	var left, out []int
	for i := 0; i < n && n <= 1024; i++ {
		left = append(left, i)
	}
	for len(left) > 0 {
		at := p.num(len(left))
		out = append(out, left[at])
		left = append(slices.Clone(left[:at]), left[at+1:]...)
	}
	return out
}

func TestNew(t *testing.T) { // P7.1
	for _, n := range []int{0, 1, 2, 5, 1024, 65535, 65536, 65537, 100000} {
		b := counted(n)
		s := New(b)
		if s == nil || s.Left() != n || !bytes.Equal(rest(s), b) {
			t.Errorf("%d bytes", n)
		}
	}
	if s := New(nil); s == nil || s.Left() != 0 || s.Byte() != 0 || s.Add([]byte{1}) != api.OK || s.Byte() != 1 {
		t.Error("a source of no bytes is one")
	}
}

func TestByte(t *testing.T) { // P7.1
	s := New([]byte{1, 0, 255})
	for i, want := range []byte{1, 0, 255, 0, 0, 0} {
		if got := s.Byte(); got != want || s.Left() != max(0, 2-i) {
			t.Errorf("byte %d: %d, %d left", i, got, s.Left())
		}
	}
}

func TestWord(t *testing.T) { // P7.1
	for _, c := range []struct {
		b    []byte
		want uint32
		left int
	}{
		{nil, 0, 0}, {[]byte{1}, 0x01000000, 0}, {[]byte{1, 2}, 0x01020000, 0}, {[]byte{1, 2, 3}, 0x01020300, 0},
		{[]byte{1, 2, 3, 4}, 0x01020304, 0}, {[]byte{1, 2, 3, 4, 5}, 0x01020304, 1}, {[]byte{255, 255, 255, 255}, math.MaxUint32, 0},
		{[]byte{0, 0, 1, 4}, 260, 0}, {[]byte{0x80, 0, 0, 0, 9, 9}, 1 << 31, 2},
	} {
		s := New(c.b)
		if got := s.Word(); got != c.want || s.Left() != c.left {
			t.Errorf("%v: %#x, %d left", c.b, got, s.Left())
		}
		if c.left == 0 && (s.Word() != 0 || s.Left() != 0) {
			t.Errorf("%v: behind the end", c.b)
		}
	}
}

func TestTake(t *testing.T) { // P7.1
	for _, size := range []int{0, 1, 3, 1023, 1024, 1025, 3000} {
		b := counted(size)
		for _, n := range []int{math.MinInt, -1025, -1, 0, 1, 2, 3, 4, 1023, 1024, 1025, 4096, math.MaxInt} {
			s, p := New(b), plain(b)
			want := p.take(n)
			if got := s.Take(n); !bytes.Equal(got, want) {
				t.Errorf("%d of %d: %d bytes", n, size, len(got))
			}
			if !bytes.Equal(rest(s), p) {
				t.Errorf("%d of %d: %d left, want %d", n, size, s.Left(), len(p))
			}
		}
	}
	s := New([]byte{7, 8})
	if got := s.Take(4); !bytes.Equal(got, []byte{7, 8, 0, 0}) {
		t.Errorf("past the end: %v", got)
	}
	if got := len(New(counted(2000)).Take(1025)); got != 1024 {
		t.Errorf("more than the most: %d", got)
	}
}

func TestNum(t *testing.T) { // P7.2
	for _, c := range []struct {
		n, want, read int
	}{
		{math.MinInt, 0, 0}, {-256, 0, 0}, {-1, 0, 0}, {0, 0, 0}, {1, 0, 0},
		{2, 1, 1}, {3, 0, 1}, {7, 4, 1}, {200, 49, 1}, {255, 249, 1}, {256, 249, 1},
		{257, 0xf9f8 % 257, 2}, {300, 0xf9f8 % 300, 2}, {65535, 0xf9f8, 2}, {65536, 0xf9f8, 2},
		{65537, 0xf9f8f7 % 65537, 3}, {1 << 24, 0xf9f8f7, 3}, {1<<24 + 1, 0xf9f8f7f6 % (1<<24 + 1), 4},
		{1 << 32, 0xf9f8f7f6, 4}, {1<<32 + 1, 0xf9f8f7f6f5 % (1<<32 + 1), 5}, {1 << 40, 0xf9f8f7f6f5, 5}, {1<<40 + 1, 0xf9f8f7f6f5f4 % (1<<40 + 1), 6},
		{1 << 48, 0xf9f8f7f6f5f4, 6}, {1<<48 + 1, 0xf9f8f7f6f5f4f3 % (1<<48 + 1), 7}, {1 << 56, 0xf9f8f7f6f5f4f3, 7}, {1<<56 + 1, 0xf9f8f7f6f5f4f3f2 % (1<<56 + 1), 8},
		{1 << 62, 0xf9f8f7f6f5f4f3f2 % (1 << 62), 8}, {math.MaxInt, 0xf9f8f7f6f5f4f3f2 % math.MaxInt, 8},
	} {
		b := []byte{0xf9, 0xf8, 0xf7, 0xf6, 0xf5, 0xf4, 0xf3, 0xf2, 0xf1}
		s := New(b)
		if got := s.Num(c.n); got != c.want || s.Left() != len(b)-c.read {
			t.Errorf("%d: %d, %d read; want %d, %d", c.n, got, len(b)-s.Left(), c.want, c.read)
		}
	}
}

func TestNumExample(t *testing.T) { // P7.2
	s := New([]byte{1, 2, 7})
	if s.Num(3) != 1 || s.Num(300) != 219 || s.Left() != 0 || s.Byte() != 0 {
		t.Error("the document's example")
	}
}

func TestNumPastTheEnd(t *testing.T) { // P7.1, P7.2
	for _, c := range []struct {
		b       []byte
		n, want int
	}{
		{nil, 2, 0}, {nil, math.MaxInt, 0}, {[]byte{1}, 257, 256}, {[]byte{2}, 300, 512 % 300}, {[]byte{1}, 65537, 65536},
		{[]byte{1, 2}, 65537, 0x010200 % 65537}, {[]byte{1}, 1 << 62, 1 << 56}, {[]byte{0xff}, math.MaxInt, (0xff << 56) % math.MaxInt},
	} {
		s := New(c.b)
		if got := s.Num(c.n); got != c.want || s.Left() != 0 {
			t.Errorf("%d of %v: %d, %d left", c.n, c.b, got, s.Left())
		}
	}
}

// someNums are numbers of all sizes, those at the edges among them.
func someNums(r *rand.Rand) int {
	edge := 1<<(8*r.Intn(8)) - 2 + r.Intn(5)
	return []int{edge, r.Intn(10), 1 + r.Intn(1000), r.Int() >> r.Intn(63), -r.Int(), math.MaxInt - r.Intn(2)}[r.Intn(6)]
}

func TestNumInRange(t *testing.T) { // P7.2, P7.5
	r := rand.New(rand.NewSource(7))
	for range 100000 {
		b := make([]byte, r.Intn(11))
		r.Read(b)
		n := someNums(r)
		s, p := New(b), plain(b)
		got := s.Num(n)
		if n >= 1 && (got < 0 || got >= n) {
			t.Fatalf("%d of %v: %d is out of range", n, b, got)
		}
		if want := p.num(n); got != want || s.Left() != len(p) {
			t.Fatalf("%d of %v: %d, want %d; %d left, want %d", n, b, got, want, s.Left(), len(p))
		}
	}
}

func TestAdd(t *testing.T) { // P7.3
	s := New([]byte{1, 2})
	for _, c := range []struct{ add, left []byte }{{nil, []byte{1, 2}}, {[]byte{}, []byte{1, 2}}, {[]byte{3}, []byte{1, 2, 3}}, {[]byte{4, 5}, []byte{1, 2, 3, 4, 5}}} {
		if e := s.Add(c.add); e != api.OK || !bytes.Equal(rest(s), c.left) || s.Left() != len(c.left) {
			t.Errorf("%v: %d, %v", c.add, int(e), rest(s))
		}
	}
	if s.Take(7); s.Add([]byte{6, 7}) != api.OK || s.Left() != 2 || s.Word() != 0x06070000 {
		t.Error("what was read past the end is not owed")
	}
}

func TestAddUpToTheMost(t *testing.T) { // P7.3
	for _, c := range []struct {
		had, read, add int
		want           api.Errno
	}{
		{0, 0, 65535, api.OK}, {0, 0, 65536, api.OK}, {0, 0, 65537, api.ErrFull}, {0, 0, 1 << 20, api.ErrFull},
		{65535, 0, 1, api.OK}, {65535, 0, 2, api.ErrFull}, {65536, 0, 0, api.OK}, {65536, 0, 1, api.ErrFull}, {1, 0, 65536, api.ErrFull}, {30000, 0, 35536, api.OK}, {30000, 0, 35537, api.ErrFull},
		{65536, 1, 1, api.OK}, {65536, 1, 2, api.ErrFull}, {65536, 65536, 65536, api.OK}, {65536, 65536, 65537, api.ErrFull}, {10, 20, 65536, api.OK}, {10, 20, 65537, api.ErrFull},
		{65537, 0, 0, api.ErrFull}, {65537, 0, 1, api.ErrFull}, {65537, 1, 0, api.OK}, {65537, 1, 1, api.ErrFull}, {70000, 4465, 1, api.OK}, {70000, 4464, 1, api.ErrFull},
	} {
		b, add := counted(c.had), bytes.Repeat([]byte{0xaa}, c.add)
		s := New(b)
		for range c.read {
			s.Byte()
		}
		want := slices.Clone(b[min(c.read, c.had):])
		if c.want == api.OK {
			want = append(want, add...)
		}
		if e := s.Add(add); e != c.want || s.Left() != len(want) || !bytes.Equal(rest(s), want) {
			t.Errorf("%v: %d, %d left", c, int(e), s.Left())
		}
	}
}

func TestClone(t *testing.T) { // P7.3
	b := []byte{1, 2, 3, 4}
	s := New(b)
	s.Byte()
	c := s.Clone()
	if c == nil || c == s || c.Left() != 3 || !bytes.Equal(rest(c), b[1:]) {
		t.Fatal("not the same bytes left")
	}
	c.Take(2)
	if !bytes.Equal(rest(s), b[1:]) || !bytes.Equal(rest(c), b[3:]) {
		t.Error("reading the clone")
	}
	s.Byte()
	if !bytes.Equal(rest(s), b[2:]) || !bytes.Equal(rest(c), b[3:]) {
		t.Error("reading the first one")
	}
	for range 20 { // so often that there is spare room to share
		s.Add([]byte{10})
		d := s.Clone()
		s.Add([]byte{11})
		d.Add([]byte{12})
		if l, m := rest(s), rest(d); l[len(l)-1] != 11 || m[len(m)-1] != 12 || len(l) != len(m) {
			t.Fatal("adding to both", l, m)
		}
	}
	if e := New(nil).Clone(); e == nil || e.Left() != 0 || e.Add([]byte{5}) != api.OK || e.Byte() != 5 {
		t.Error("a clone of no bytes")
	}
	if long := New(counted(70000)).Clone(); long.Left() != 70000 || long.Add(nil) != api.ErrFull {
		t.Error("a clone of more than can be added")
	}
}

func TestNotMade(t *testing.T) { // P7.3, P7.4, rule 1
	for _, s := range notMade() {
		for range 2 {
			if s.Add([]byte{1}) != api.ErrNil || s.Add(nil) != api.ErrNil || s.Add(make([]byte, 1<<17)) != api.ErrNil {
				t.Error("something is added")
			}
			if s.Left() != 0 || s.Clone() != nil || s.Byte() != 0 || s.Word() != 0 || s.Num(7) != 0 || s.Num(math.MaxInt) != 0 || s.Num(-1) != 0 {
				t.Error("not all results are zero")
			}
			for _, n := range []int{-1, 0, 1, 3, 1024, 1025} {
				if got := s.Take(n); !bytes.Equal(got, make([]byte, max(0, min(n, 1024)))) {
					t.Errorf("%d bytes of zero: %v", n, got)
				}
			}
			if got := Order(s, 3); !slices.Equal(got, []int{0, 1, 2}) {
				t.Errorf("an order by bytes that are 0: %v", got)
			}
		}
	}
}

func TestOrder(t *testing.T) { // P7.4
	for _, c := range []struct {
		b       []byte
		n, left int
		want    []int
	}{
		{[]byte{2, 0}, 3, 0, []int{2, 0, 1}},
		{[]byte{2, 1, 9}, 3, 1, []int{2, 1, 0}},
		{[]byte{1, 1, 9}, 3, 1, []int{1, 2, 0}},
		{[]byte{5, 5, 5}, 3, 1, []int{2, 1, 0}},
		{nil, 4, 0, []int{0, 1, 2, 3}},
		{[]byte{3}, 4, 0, []int{3, 0, 1, 2}},
		{[]byte{7}, 1, 1, []int{0}},
		{[]byte{7}, 2, 0, []int{1, 0}},
		{[]byte{7}, 0, 1, nil},
		{[]byte{7}, -1, 1, nil},
		{[]byte{7}, 1025, 1, nil},
		{[]byte{7}, math.MaxInt, 1, nil},
		{[]byte{7}, math.MinInt, 1, nil},
	} {
		s := New(c.b)
		if got := Order(s, c.n); !slices.Equal(got, c.want) || s.Left() != c.left {
			t.Errorf("%d by %v: %v, %d left", c.n, c.b, got, s.Left())
		}
	}
}

func TestOrderHasEachOnce(t *testing.T) { // P7.4, P7.6
	r := rand.New(rand.NewSource(74))
	for _, n := range []int{1, 2, 3, 10, 255, 256, 257, 258, 1000, 1023, 1024} {
		for _, size := range []int{0, 1, n / 2, n, 2*n + 5} {
			b := make([]byte, size)
			r.Read(b)
			s, p := New(b), plain(b)
			got := Order(s, n)
			if want := p.order(n); !slices.Equal(got, want) || s.Left() != len(p) {
				t.Errorf("%d by %d bytes: not as the promise says", n, size)
			}
			slices.Sort(got)
			for i := range got {
				if len(got) != n || got[i] != i {
					t.Fatalf("%d by %d bytes: not each once", n, size)
				}
			}
		}
	}
}

// inverse are the bytes by which Order draws the permutation.
func inverse(perm []int) []byte {
	var left []int
	for i := range perm {
		left = append(left, i)
	}
	var b []byte
	for _, v := range perm {
		at := slices.Index(left, v)
		switch {
		case len(left) > 256:
			b = append(b, byte(at>>8), byte(at))
		case len(left) > 1:
			b = append(b, byte(at))
		}
		left = slices.Delete(left, at, at+1)
	}
	return b
}

func TestOrderTellsEachPermutation(t *testing.T) { // P7.6
	seen, many := map[string]int{}, 1
	for n := 1; n <= 5; n++ {
		many *= n
		clear(seen)
		for i := range many {
			var b []byte
			for k, rest := n, i; k > 1; k-- {
				b = append(b, byte(rest%k))
				rest /= k
			}
			seen[fmt.Sprint(Order(New(b), n))]++
		}
		if len(seen) != many {
			t.Errorf("%d of %d permutations of %d", len(seen), many, n)
		}
	}
	r := rand.New(rand.NewSource(76))
	for _, n := range []int{1, 2, 30, 256, 257, 400, 1024} {
		perm := r.Perm(n)
		s := New(inverse(perm))
		if got := Order(s, n); !slices.Equal(got, perm) || s.Left() != 0 {
			t.Errorf("a permutation of %d was not met", n)
		}
	}
}

func TestMemoryIsItsOwn(t *testing.T) { // the rules
	room := []byte{1, 2, 3, 4, 5, 6}
	kept := slices.Clone(room)
	s := New(room[:2])
	s.Add(room[2:4])
	s.Add([]byte{77})
	if !bytes.Equal(room, kept) {
		t.Fatalf("an argument or its spare room has changed: %v", room)
	}
	clear(room)
	if got := rest(s); !bytes.Equal(got, []byte{1, 2, 3, 4, 77}) {
		t.Fatalf("a source changes with what it was given: %v", got)
	}
	s = New([]byte{1, 2, 3, 4})
	c := s.Clone()
	first := append(s.Take(2), 99, 99)
	clear(first)
	if !bytes.Equal(rest(s), []byte{3, 4}) || !bytes.Equal(rest(c), []byte{1, 2, 3, 4}) {
		t.Error("what was taken shares memory with the source")
	}
	if s = New(room[:0]); s.Add([]byte{9, 9}) != api.OK || !bytes.Equal(room, make([]byte, 6)) {
		t.Error("the room of an empty argument is written into")
	}
}

func TestManySteps(t *testing.T) { // P7.1, P7.2, P7.3
	r := rand.New(rand.NewSource(71))
	s, p := New(nil), plain(nil)
	for i := range 20000 {
		var got, want any
		switch n := someNums(r); r.Intn(6) {
		case 0:
			b := counted(r.Intn(20))
			got, want = s.Add(b), api.OK
			p = append(slices.Clone(p), b...)
		case 1:
			got, want = s.Num(n), p.num(n)
		case 2:
			got, want = string(s.Take(n%9)), string(p.take(n%9))
		case 3:
			got, want = uint64(s.Word()), new(big.Int).SetBytes(p.take(4)).Uint64()
		case 4:
			got, want = s.Byte(), p.next()
		default:
			s = s.Clone()
		}
		if got != want || s.Left() != len(p) {
			t.Fatalf("step %d: %v, want %v; %d left, want %d", i, got, want, s.Left(), len(p))
		}
	}
}
