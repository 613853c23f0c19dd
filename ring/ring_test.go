package ring

import (
	"math"
	"math/rand"
	"slices"
	"strconv"
	"testing"

	"signpost/api"
)

func listed[T any](r *Ring[T]) []T {
	var l []T
	for _, x := range r.All() {
		l = append(l, x)
	}
	return l
}

// isSame tells whether all that a queue tells is what a plain list of at most so many elements tells.
func isSame(r *Ring[int], want []int, most int) bool {
	if r.Len() != len(want) || r.Room() != most-len(want) {
		return false
	}
	n := 0
	for i, x := range r.All() {
		if i != n || i >= len(want) || x != want[i] {
			return false
		}
		n++
	}
	for i := -2; i < most+3; i++ {
		x, ok := r.At(i)
		there := i >= 0 && i < len(want)
		if ok != there || there && x != want[i] || !there && x != 0 {
			return false
		}
	}
	return n == len(want)
}

func check(t *testing.T, r *Ring[int], most int, want ...int) {
	t.Helper()
	if !isSame(r, want, most) {
		t.Errorf("%v, room %d, not %v", listed(r), r.Room(), want)
	}
}

func filled(t *testing.T, most int, l ...int) *Ring[int] {
	t.Helper()
	r := New[int](most)
	if n := Fill(r, l...); n != min(most, len(l)) {
		t.Fatal(n)
	}
	return r
}

// outside are places at which no queue has an element.
func outside(n int) []int {
	return []int{-1, -n, -n - 1, n, n + 1, 2 * n, math.MaxInt, math.MinInt, math.MaxInt32, math.MinInt32, 1 << 32, -1 << 32}
}

func TestNew(t *testing.T) { // P16.1
	for _, most := range []int{1, 2, 1024, api.MaxQueue - 1, api.MaxQueue} {
		r := New[string](most)
		if r == nil || r.Len() != 0 || r.Room() != most {
			t.Fatal(most)
		}
		if x, ok := r.Pop(); x != "" || ok {
			t.Error(most, x, ok)
		}
	}
	for _, most := range []int{0, -1, api.MaxQueue + 1, math.MaxInt32, math.MaxInt, math.MinInt} {
		if New[string](most) != nil || New[int](most) != nil {
			t.Error(most)
		}
	}
}

func TestPushAndPop(t *testing.T) { // P16.1
	r := New[int](3)
	for n, x := range []int{7, 0, -7} {
		if e := r.Push(x); e != api.OK || r.Len() != n+1 {
			t.Error(x, int(e))
		}
	}
	for range 2 {
		if e := r.Push(9); e != api.ErrFull {
			t.Error(int(e))
		}
		check(t, r, 3, 7, 0, -7)
	}
	for _, want := range []int{7, 0, -7} {
		if x, ok := r.Pop(); x != want || !ok {
			t.Error(want, x, ok)
		}
	}
	for range 2 {
		if x, ok := r.Pop(); x != 0 || ok {
			t.Error(x, ok)
		}
		check(t, r, 3)
	}
	if e := r.Push(9); e != api.OK {
		t.Error(int(e))
	}
	check(t, r, 3, 9)
}

func TestQueueOfOne(t *testing.T) { // P16.1
	r := New[string](1)
	for i := range 100 {
		s := strconv.Itoa(i)
		if r.Push(s) != api.OK || r.Push("more") != api.ErrFull || r.Room() != 0 {
			t.Fatal(i)
		}
		if x, ok := r.Pop(); x != s || !ok || r.Room() != 1 {
			t.Fatal(i, x, ok)
		}
	}
}

func TestQueueOfMost(t *testing.T) { // P16.1, P16.4
	r := New[int](api.MaxQueue)
	for round := range 2 {
		for x := range api.MaxQueue {
			if e := r.Push(x + round); e != api.OK {
				t.Fatal(x, int(e))
			}
		}
		if e := r.Push(-1); e != api.ErrFull || r.Len() != api.MaxQueue || r.Room() != 0 {
			t.Error(int(e))
		}
		for want := range api.MaxQueue {
			if x, ok := r.Pop(); x != want+round || !ok {
				t.Fatal(want, x, ok)
			}
		}
		if r.Len() != 0 || r.Room() != api.MaxQueue {
			t.Error(r.Len())
		}
	}
}

func TestAt(t *testing.T) { // P16.2
	r := filled(t, 4, 5, 6, 7)
	for i, want := range []int{5, 6, 7} {
		for range 2 {
			if x, ok := r.At(i); x != want || !ok {
				t.Error(i, x, ok)
			}
		}
	}
	for _, i := range outside(3) {
		if x, ok := r.At(i); x != 0 || ok {
			t.Error(i, x, ok)
		}
	}
	r.Pop()
	r.Push(8)
	check(t, r, 4, 6, 7, 8)
	// Room for one more is no element.
	if x, ok := r.At(3); x != 0 || ok {
		t.Error(x, ok)
	}
}

func TestCut(t *testing.T) { // P16.2
	for _, x := range []struct {
		at   int
		left []int
	}{{0, []int{6, 7, 8}}, {1, []int{5, 7, 8}}, {2, []int{5, 6, 8}}, {3, []int{5, 6, 7}}} {
		r := filled(t, 4, 5, 6, 7, 8)
		if y, ok := r.Cut(x.at); y != 5+x.at || !ok {
			t.Error(x.at, y, ok)
		}
		check(t, r, 4, x.left...)
		if e := r.Push(9); e != api.OK {
			t.Error(int(e))
		}
		check(t, r, 4, append(x.left, 9)...)
	}
	r := filled(t, 5, 5, 6, 7)
	for _, i := range outside(3) {
		if x, ok := r.Cut(i); x != 0 || ok {
			t.Error(i, x, ok)
		}
		check(t, r, 5, 5, 6, 7)
	}
	for _, want := range []int{6, 7} {
		if x, ok := r.Cut(1); x != want || !ok {
			t.Error(want, x, ok)
		}
	}
	if x, ok := r.Cut(0); x != 5 || !ok {
		t.Error(x, ok)
	}
	if x, ok := r.Cut(0); x != 0 || ok {
		t.Error("of none", x, ok)
	}
	check(t, r, 5)
}

func TestLenAndRoom(t *testing.T) { // P16.2
	r := New[int](3)
	for n := range 3 {
		if r.Len() != n || r.Room() != 3-n {
			t.Error(n, r.Len(), r.Room())
		}
		r.Push(n)
	}
	r.Push(4)
	if r.Len() != 3 || r.Room() != 0 {
		t.Error(r.Len(), r.Room())
	}
	r.Cut(2)
	if r.Len() != 2 || r.Room() != 1 {
		t.Error(r.Len(), r.Room())
	}
}

func TestAll(t *testing.T) { // P16.2
	r := filled(t, 5, 1, 2, 3, 4)
	r.Pop()
	all := r.All()
	for range 2 {
		var places, l []int
		for i, x := range all {
			places, l = append(places, i), append(l, x)
		}
		if !slices.Equal(places, []int{0, 1, 2}) || !slices.Equal(l, []int{2, 3, 4}) {
			t.Error(places, l)
		}
	}
	n := 0
	for i := range all {
		n++
		if i == 1 {
			break
		}
	}
	if n != 2 {
		t.Error("it went on:", n)
	}
	check(t, r, 5, 2, 3, 4)
	for range New[int](1).All() {
		t.Error("there is none")
	}
}

func TestAllWhileItChanges(t *testing.T) { // P16.2
	r := filled(t, 3, 1, 2, 3)
	var l []int
	for _, x := range r.All() {
		l = append(l, x)
		r.Cut(1)
		r.Pop()
		r.Push(-x)
	}
	if !slices.Equal(l, []int{1, 2, 3}) {
		t.Error(l)
	}
}

func TestClone(t *testing.T) { // P16.2
	r := filled(t, 4, 1, 2, 3)
	r.Pop()
	c := r.Clone()
	check(t, c, 4, 2, 3)
	r.Push(4)
	r.Cut(1)
	check(t, r, 4, 2, 4)
	check(t, c, 4, 2, 3)
	if n := Fill(c, 5, 6, 7); n != 2 {
		t.Error("its limit is another:", n)
	}
	c.Pop()
	check(t, r, 4, 2, 4)
	check(t, c, 4, 3, 5, 6)
	c = New[int](7).Clone()
	check(t, c, 7)
	full := filled(t, 2, 1, 2).Clone()
	check(t, full, 2, 1, 2)
}

func TestFill(t *testing.T) { // P16.3
	for n := range 6 {
		l := []int{1, 2, 3, 4, 5}[:n]
		r := New[int](3)
		if got := Fill(r, l...); got != min(n, 3) {
			t.Error(n, got)
		}
		check(t, r, 3, l[:min(n, 3)]...)
		if got := Fill(r, 9); got != min(1, 3-min(n, 3)) {
			t.Error(n, got)
		}
	}
	r := filled(t, 3, 1, 2)
	if n := Fill(r); n != 0 {
		t.Error("nothing", n)
	}
	if n := Fill(r, 3, 4); n != 1 {
		t.Error(n)
	}
	if n := Fill(r, 3, 4); n != 0 {
		t.Error("full", n)
	}
	check(t, r, 3, 1, 2, 3)
}

func TestExample(t *testing.T) { // P16.1, P16.2, P16.3
	r := New[int](2)
	if n := Fill(r, 1, 2, 3); n != 2 {
		t.Error(n)
	}
	if x, ok := r.Pop(); x != 1 || !ok {
		t.Error(x, ok)
	}
	r.Push(4)
	if x, ok := r.Cut(0); x != 2 || !ok {
		t.Error(x, ok)
	}
}

func TestFillLeavesItsList(t *testing.T) { // P16.3, rules 4 and 8
	l := []int{1, 2, 3, 4}
	r := New[int](5)
	if n := Fill(r, l[:2]...); n != 2 {
		t.Error(n)
	}
	r.Push(7)
	r.Cut(0)
	r.Pop()
	if !slices.Equal(l, []int{1, 2, 3, 4}) {
		t.Error("changed", l)
	}
	check(t, r, 5, 7)
	r = New[int](5)
	Fill(r, l...)
	l[0], l[3] = 8, 9
	check(t, r, 5, 1, 2, 3, 4)
}

func TestNoQueue(t *testing.T) { // P16.3, rule 1
	for _, r := range []*Ring[string]{nil, {}} {
		for range 2 {
			if e := r.Push("a"); e != api.ErrNil {
				t.Error(int(e))
			}
			if Fill(r, "a", "b") != 0 || Fill(r) != 0 || r.Len() != 0 || r.Room() != 0 || r.Clone() != nil {
				t.Error("something is there")
			}
			for _, i := range append(outside(1), 0) {
				if x, ok := r.At(i); x != "" || ok {
					t.Error(i, x, ok)
				}
				if x, ok := r.Cut(i); x != "" || ok {
					t.Error(i, x, ok)
				}
			}
			if x, ok := r.Pop(); x != "" || ok {
				t.Error(x, ok)
			}
			if r.All() == nil {
				t.Fatal("no iterator")
			}
			for i, x := range r.All() {
				t.Error(i, x)
			}
		}
	}
}

func TestOtherElements(t *testing.T) { // P16.1, P16.2
	f := New[func() int](2)
	Fill(f, func() int { return 1 }, func() int { return 2 })
	if g, ok := f.Cut(1); !ok || g() != 2 {
		t.Error("functions")
	}
	if g, ok := f.At(1); ok || g != nil {
		t.Error("functions")
	}
	a := New[any](2)
	Fill[any](a, nil, []int{1})
	if x, ok := a.Pop(); x != nil || !ok || a.Len() != 1 {
		t.Error(x, ok)
	}
	n := New[struct{}](api.MaxQueue)
	if Fill(n, struct{}{}, struct{}{}) != 2 || n.Len() != 2 {
		t.Error(n.Len())
	}
}

func TestAsThePlainOne(t *testing.T) { // P16.1, P16.2, P16.3
	for seed := range int64(60) {
		r := rand.New(rand.NewSource(seed))
		most := 1 + r.Intn(8)
		q := New[int](most)
		var want []int
		for step := range 200 {
			x := 1 + r.Intn(1000)
			other, before := q, slices.Clone(want)
			if r.Intn(10) == 0 {
				q = q.Clone()
			}
			switch r.Intn(5) {
			case 0:
				y, ok := q.Pop()
				if ok != (len(want) > 0) || ok && y != want[0] {
					t.Fatal(seed, step, "pop", want, y)
				}
				want = want[min(1, len(want)):]
			case 1:
				i := r.Intn(most+2) - 1
				y, ok := q.Cut(i)
				if there := i >= 0 && i < len(want); ok != there || there && y != want[i] {
					t.Fatal(seed, step, "cut", i, want, y)
				}
				if ok {
					want = slices.Concat(want[:i], want[i+1:])
				}
			case 2:
				l := []int{x, x + 1, x + 2}
				n := min(3, most-len(want))
				if Fill(q, l...) != n {
					t.Fatal(seed, step, "fill", want)
				}
				want = slices.Concat(want, l[:n])
			default:
				e := q.Push(x)
				if full := len(want) == most; full != (e == api.ErrFull) || full == (e == api.OK) {
					t.Fatal(seed, step, "push", want, int(e))
				}
				if e == api.OK {
					want = append(slices.Clone(want), x)
				}
			}
			if !isSame(q, want, most) || other != q && !isSame(other, before, most) {
				t.Fatal(seed, step, want, listed(q))
			}
		}
	}
}

func TestOrder(t *testing.T) { // P16.4
	r := rand.New(rand.NewSource(164))
	for range 50 {
		q := New[int](1 + r.Intn(20))
		pushed, popped := 0, 0
		for range 500 {
			if r.Intn(2) == 0 && q.Push(pushed) == api.OK {
				pushed++
			}
			if r.Intn(2) == 0 {
				if x, ok := q.Pop(); ok {
					if x != popped {
						t.Fatal(x, popped)
					}
					popped++
				}
			}
			if q.Len() != pushed-popped {
				t.Fatal(q.Len(), pushed, popped)
			}
		}
	}
}
