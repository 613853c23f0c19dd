package bag

import (
	"math"
	"math/rand"
	"slices"
	"strconv"
	"strings"
	"testing"

	"signpost/api"
)

var (
	here  = api.Addr{Host: 0x0a000001, Port: 4000}
	there = api.Addr{Host: 0x0a000002, Port: 4000}
)

func sent(s string, to api.Addr) api.Datagram {
	return api.Datagram{From: api.Addr{Host: 7, Port: 9}, To: to, Bytes: s}
}

// plain is a bag by its chapter's words.
type plain struct {
	most, lost int
	list       []api.Datagram
}

func (p *plain) put(d api.Datagram) api.Errno {
	if len(d.Bytes) > 8192 {
		return api.ErrLong
	}
	if len(p.list) == p.most {
		p.lost++
		return api.ErrFull
	}
	p.list = append(slices.Clone(p.list), d)
	return api.OK
}

func (p *plain) at(i int) (api.Datagram, bool) {
	if i < 0 || i >= len(p.list) {
		return api.Datagram{}, false
	}
	return p.list[i], true
}

func (p *plain) take(i int) (api.Datagram, bool) {
	d, ok := p.at(i)
	if ok {
		p.list = slices.Concat(p.list[:i], p.list[i+1:])
	}
	return d, ok
}

func (p *plain) double(i int) api.Errno {
	d, ok := p.at(i)
	if !ok {
		return api.ErrNone
	}
	if len(p.list) == p.most {
		return api.ErrFull
	}
	p.list = append(slices.Clone(p.list), d)
	return api.OK
}

func (p *plain) to(a api.Addr) []int {
	var l []int
	for i, d := range p.list {
		if d.To == a {
			l = append(l, i)
		}
	}
	return l
}

// isSame tells whether all that a bag tells is what the plain one tells.
func isSame(b *Bag, p plain) bool {
	if b.Len() != len(p.list) || b.Lost() != p.lost {
		return false
	}
	for i := -2; i < len(p.list)+3; i++ {
		d, ok := b.At(i)
		want, is := p.at(i)
		if d != want || ok != is {
			return false
		}
	}
	for _, a := range []api.Addr{{}, here, there, {Host: here.Host}, {Port: here.Port}} {
		if !slices.Equal(b.To(a), p.to(a)) {
			return false
		}
	}
	return true
}

func check(t *testing.T, b *Bag, lost int, want ...api.Datagram) {
	t.Helper()
	if !isSame(b, plain{lost: lost, list: want}) {
		t.Errorf("%d datagrams and %d lost, not %d and %d, or others", b.Len(), b.Lost(), len(want), lost)
	}
}

func filled(t *testing.T, most int, l ...api.Datagram) *Bag {
	t.Helper()
	b := New(most)
	for _, d := range l {
		if e := b.Put(d); e != api.OK {
			t.Fatal(int(e))
		}
	}
	return b
}

// outside are places at which no bag of n has a datagram.
func outside(n int) []int {
	return []int{-1, -n, -n - 1, n, n + 1, 2*n + 1, math.MaxInt, math.MinInt, math.MaxInt32, math.MinInt32, 1 << 32, -1 << 32}
}

func TestNew(t *testing.T) { // P17.1
	for _, most := range []int{1, 2, 1023, 1024} {
		b := New(most)
		if b == nil {
			t.Fatal(most)
		}
		check(t, b, 0)
	}
	for _, most := range []int{0, -1, 1025, api.MaxQueue, api.MaxQueue + 1, math.MaxInt32, math.MaxInt, math.MinInt, 1<<32 + 1} {
		if New(most) != nil {
			t.Error(most)
		}
	}
}

func TestPut(t *testing.T) { // P17.1, P17.2
	l := []api.Datagram{sent("b", here), {}, sent("", there), sent("b", here)}
	b := New(4)
	for n, d := range l {
		if e := b.Put(d); e != api.OK {
			t.Error(n, int(e))
		}
		check(t, b, 0, l[:n+1]...)
	}
	for lost := range 3 {
		if e := b.Put(sent("c", here)); e != api.ErrFull {
			t.Error(int(e))
		}
		check(t, b, lost+1, l...)
	}
	b.Take(1)
	if e := b.Put(sent("d", there)); e != api.OK {
		t.Error(int(e))
	}
	check(t, b, 3, l[0], l[2], l[3], sent("d", there))
}

func TestPutOfLongOnes(t *testing.T) { // P17.1
	b := New(2)
	longest := sent(strings.Repeat("x", 8192), here)
	for _, n := range []int{8193, 8194, 16384, 1 << 20} {
		if e := b.Put(sent(strings.Repeat("x", n), here)); e != api.ErrLong {
			t.Error(n, int(e))
		}
		check(t, b, 0)
	}
	b.Put(longest)
	if e := b.Put(sent(strings.Repeat("\x00", 8192), there)); e != api.OK {
		t.Error(int(e))
	}
	// Too long comes ahead of full, and is not lost for want of room.
	if e := b.Put(sent(longest.Bytes+"x", here)); e != api.ErrLong || b.Lost() != 0 {
		t.Error(int(e), b.Lost())
	}
	if e := b.Put(longest); e != api.ErrFull || b.Lost() != 1 {
		t.Error(int(e), b.Lost())
	}
	check(t, b, 1, longest, sent(strings.Repeat("\x00", 8192), there))
}

func TestTake(t *testing.T) { // P17.1
	l := []api.Datagram{sent("a", here), sent("b", there), sent("c", here), sent("d", there)}
	for i := range l {
		b := filled(t, 4, l...)
		if d, ok := b.Take(i); d != l[i] || !ok {
			t.Error(i, d, ok)
		}
		left := slices.Concat(l[:i], l[i+1:])
		check(t, b, 0, left...)
		if e := b.Put(sent("e", here)); e != api.OK {
			t.Error(int(e))
		}
		check(t, b, 0, append(left, sent("e", here))...)
	}
	b := filled(t, 5, l...)
	for _, i := range outside(4) {
		if d, ok := b.Take(i); d != (api.Datagram{}) || ok {
			t.Error(i, d, ok)
		}
		check(t, b, 0, l...)
	}
	for range 4 {
		b.Take(0)
	}
	for _, i := range append(outside(0), 0) {
		if d, ok := b.Take(i); d != (api.Datagram{}) || ok {
			t.Error("of none", i, d, ok)
		}
	}
	check(t, b, 0)
}

func TestDouble(t *testing.T) { // P17.1
	l := []api.Datagram{sent("a", here), sent("b", there), sent("c", here)}
	for i := range l {
		b := filled(t, 4, l...)
		if e := b.Double(i); e != api.OK {
			t.Error(i, int(e))
		}
		check(t, b, 0, append(slices.Clone(l), l[i])...)
		for _, j := range []int{0, 1, 2, 3} {
			if e := b.Double(j); e != api.ErrFull {
				t.Error(i, j, int(e))
			}
		}
		// None comes ahead of full.
		for _, j := range outside(4) {
			if e := b.Double(j); e != api.ErrNone {
				t.Error(i, j, int(e))
			}
		}
		check(t, b, 0, append(slices.Clone(l), l[i])...)
	}
	b := filled(t, 9, l...)
	for _, i := range outside(3) {
		if e := b.Double(i); e != api.ErrNone {
			t.Error(i, int(e))
		}
	}
	check(t, b, 0, l...)
	if e := New(1).Double(0); e != api.ErrNone {
		t.Error(int(e))
	}
	b = filled(t, 1, l[0])
	b.Put(l[1])
	if e := b.Double(0); e != api.ErrFull {
		t.Error(int(e))
	}
	check(t, b, 1, l[0])
}

func TestCopiesGoOnAlone(t *testing.T) { // P17.1, P17.3
	b := filled(t, 3, sent("a", here))
	b.Double(0)
	b.Double(1)
	if d, ok := b.Take(0); d != sent("a", here) || !ok {
		t.Error(d, ok)
	}
	check(t, b, 0, sent("a", here), sent("a", here))
}

func TestAt(t *testing.T) { // P17.2
	l := []api.Datagram{sent("a", here), sent("b", there)}
	b := filled(t, 3, l...)
	for i, want := range l {
		for range 2 {
			if d, ok := b.At(i); d != want || !ok {
				t.Error(i, d, ok)
			}
		}
	}
	for _, i := range outside(2) {
		if d, ok := b.At(i); d != (api.Datagram{}) || ok {
			t.Error(i, d, ok)
		}
	}
	check(t, b, 0, l...)
}

func TestTo(t *testing.T) { // P17.2
	near := api.Addr{Host: here.Host, Port: here.Port + 1}
	b := filled(t, 6, sent("a", here), sent("b", there), sent("a", here), api.Datagram{From: here}, sent("c", near), sent("d", here))
	for _, x := range []struct {
		to   api.Addr
		want []int
	}{
		{here, []int{0, 2, 5}}, {there, []int{1}}, {api.Addr{}, []int{3}}, {near, []int{4}},
		{api.Addr{Host: here.Host}, nil}, {api.Addr{Port: here.Port}, nil}, {api.Addr{Host: 7, Port: 9}, nil},
	} {
		if l := b.To(x.to); !slices.Equal(l, x.want) {
			t.Error(x.to, l)
		}
	}
	l := b.To(here)
	l[0], l[2] = 8, 9
	if l := b.To(here); !slices.Equal(l, []int{0, 2, 5}) {
		t.Error("what it told is not its caller's alone", l)
	}
	b.Take(0)
	b.Double(4)
	if l := b.To(here); !slices.Equal(l, []int{1, 4, 5}) {
		t.Error(l)
	}
	if l := New(1).To(here); len(l) != 0 {
		t.Error(l)
	}
}

func TestVisitsEnd(t *testing.T) { // P17.2
	b := filled(t, 4, sent("a", there), sent("b", here), sent("c", there), sent("d", here))
	for i := range b.bound(here) {
		if i != 1 {
			t.Error("it went on:", i)
		}
		break
	}
}

func TestClone(t *testing.T) { // P17.2
	a, b := sent("a", here), sent("b", there)
	old := filled(t, 2, a, b)
	old.Put(a)
	c := old.Clone()
	check(t, c, 1, a, b)
	old.Take(0)
	check(t, c, 1, a, b)
	if e := c.Put(a); e != api.ErrFull {
		t.Error("its limit is another", int(e))
	}
	check(t, old, 1, b)
	check(t, c, 2, a, b)
	c.Take(1)
	c.Double(0)
	check(t, old, 1, b)
	check(t, c, 2, a, a)
	old.Double(0)
	old.Put(a)
	old.Put(a)
	check(t, old, 3, b, b)
	check(t, c, 2, a, a)
	c = New(1).Clone()
	check(t, c, 0)
	if e := c.Put(a); e != api.OK || c.Put(b) != api.ErrFull {
		t.Error(int(e))
	}
}

func TestNoBag(t *testing.T) { // P17.2, rule 1
	for _, b := range []*Bag{nil, {}} {
		for range 2 {
			for _, d := range []api.Datagram{{}, sent("a", here), sent(strings.Repeat("x", 8193), here)} {
				if e := b.Put(d); e != api.ErrNil {
					t.Error(int(e))
				}
			}
			for _, i := range append(outside(1), 0) {
				if d, ok := b.Take(i); d != (api.Datagram{}) || ok {
					t.Error(i, d, ok)
				}
				if d, ok := b.At(i); d != (api.Datagram{}) || ok {
					t.Error(i, d, ok)
				}
				if e := b.Double(i); e != api.ErrNil {
					t.Error(i, int(e))
				}
			}
			if b.Len() != 0 || b.Lost() != 0 || len(b.To(here)) != 0 || len(b.To(api.Addr{})) != 0 || b.Clone() != nil {
				t.Error("something is there")
			}
		}
	}
}

func TestExample(t *testing.T) { // P17.1, P17.2
	a, c := sent("a", here), sent("c", here)
	b := filled(t, 2, a, sent("b", there))
	if e := b.Put(c); e != api.ErrFull || b.Lost() != 1 {
		t.Error(int(e), b.Lost())
	}
	b.Take(0)
	b.Double(0)
	check(t, b, 1, sent("b", there), sent("b", there))
}

func TestBagOfMost(t *testing.T) { // P17.1, P17.3
	b := New(1024)
	p := plain{most: 1024}
	for i := range 1030 {
		d := sent(strconv.Itoa(i), []api.Addr{here, there}[i%2])
		if e, want := b.Put(d), p.put(d); e != want {
			t.Fatal(i, int(e))
		}
	}
	if b.Len() != 1024 || b.Lost() != 6 || !isSame(b, p) || !isSame(b.Clone(), p) {
		t.Error(b.Len(), b.Lost())
	}
	for i := range 1024 {
		if d, ok := b.Take(0); d.Bytes != strconv.Itoa(i) || !ok {
			t.Fatal(i, d, ok)
		}
	}
	check(t, b, 6)
}

func TestAsThePlainOne(t *testing.T) { // P17.1, P17.2, P17.3
	for seed := range int64(60) {
		r := rand.New(rand.NewSource(seed))
		p := plain{most: 1 + r.Intn(8)}
		b := New(p.most)
		for step := range 200 {
			other, before := b, p
			if r.Intn(10) == 0 {
				b = b.Clone()
			}
			i := r.Intn(p.most+2) - 1
			switch r.Intn(4) {
			case 0:
				d, ok := b.Take(i)
				if want, is := p.take(i); d != want || ok != is {
					t.Fatal(seed, step, "take", i, d, ok)
				}
			case 1:
				if e, want := b.Double(i), p.double(i); e != want {
					t.Fatal(seed, step, "double", i, int(e))
				}
			default:
				d := sent(strconv.Itoa(step), []api.Addr{here, there, {}}[r.Intn(3)])
				if r.Intn(10) == 0 {
					d.Bytes = strings.Repeat("x", 8191+r.Intn(3))
				}
				if e, want := b.Put(d), p.put(d); e != want {
					t.Fatal(seed, step, "put", int(e))
				}
			}
			if !isSame(b, p) || other != b && !isSame(other, before) {
				t.Fatal(seed, step, b.Len(), b.Lost())
			}
		}
	}
}
