package recent

import (
	"math"
	"math/rand"
	"slices"
	"strconv"
	"testing"

	"signpost/api"
)

func listed[K comparable](l *List[K]) []K {
	var keys []K
	for k := range l.All() {
		keys = append(keys, k)
	}
	return keys
}

// plain is a list by its chapter's words: the keys with the turns in which they were last used, sorted each time they are asked for.
type plain struct {
	most, turns int
	used        []use
}

type use struct{ key, turn int }

func (p *plain) find(k int) int {
	return slices.IndexFunc(p.used, func(x use) bool { return x.key == k })
}

func (p *plain) add(k int) api.Errno {
	if p.find(k) >= 0 {
		return api.ErrThere
	}
	if len(p.used) >= p.most {
		return api.ErrFull
	}
	p.turns++
	p.used = append([]use{{k, p.turns}}, p.used...)
	return api.OK
}

func (p *plain) touch(k int) bool {
	i := p.find(k)
	if i < 0 {
		return false
	}
	p.turns++
	p.used = slices.Clone(p.used)
	p.used[i].turn = p.turns
	return true
}

func (p *plain) remove(k int) bool {
	i := p.find(k)
	if i < 0 {
		return false
	}
	p.used = slices.Concat(p.used[:i], p.used[i+1:])
	return true
}

func (p *plain) order() []int {
	l := slices.Clone(p.used)
	slices.SortFunc(l, func(a, b use) int { return a.turn - b.turn })
	var keys []int
	for _, x := range l {
		keys = append(keys, x.key)
	}
	return keys
}

// isSame tells whether all that a list tells of keys up to 20 is what these keys, in order, and at most so many, tell.
func isSame(l *List[int], want []int, most int) bool {
	if !slices.Equal(listed(l), want) || l.Len() != len(want) || l.Full() != (len(want) == most) {
		return false
	}
	oldest, isOldest := l.Oldest()
	newest, isNewest := l.Newest()
	some := len(want) > 0
	if isOldest != some || isNewest != some || !some && (oldest != 0 || newest != 0) {
		return false
	}
	if some && (oldest != want[0] || newest != want[len(want)-1]) {
		return false
	}
	for k := range 20 {
		if l.Has(k) != slices.Contains(want, k) {
			return false
		}
	}
	return true
}

func check(t *testing.T, l *List[int], most int, want ...int) {
	t.Helper()
	if !isSame(l, want, most) {
		t.Errorf("%v, not %v", listed(l), want)
	}
}

func filled(t *testing.T, most int, keys ...int) *List[int] {
	t.Helper()
	l := New[int](most)
	for _, k := range keys {
		if e := l.Add(k); e != api.OK {
			t.Fatal(k, int(e))
		}
	}
	return l
}

func TestNew(t *testing.T) { // P18.1
	for _, most := range []int{1, 2, 1024, 65535, 65536} {
		l := New[int](most)
		if l == nil {
			t.Fatal(most)
		}
		check(t, l, most)
	}
	for _, most := range []int{0, -1, 65537, math.MaxInt32, math.MaxInt, math.MinInt, 1<<32 + 1} {
		if New[int](most) != nil || New[string](most) != nil {
			t.Error(most)
		}
	}
}

func TestAdd(t *testing.T) { // P18.1
	l := New[int](3)
	for n, k := range []int{7, 0, 3} {
		if e := l.Add(k); e != api.OK {
			t.Error(k, int(e))
		}
		check(t, l, 3, []int{7, 0, 3}[:n+1]...)
		for _, again := range []int{7, k} {
			if e := l.Add(again); e != api.ErrThere {
				t.Error(again, int(e))
			}
			check(t, l, 3, []int{7, 0, 3}[:n+1]...)
		}
	}
	// There comes ahead of full.
	for _, k := range []int{7, 0, 3} {
		if e := l.Add(k); e != api.ErrThere {
			t.Error(k, int(e))
		}
	}
	for range 2 {
		if e := l.Add(9); e != api.ErrFull {
			t.Error(int(e))
		}
		check(t, l, 3, 7, 0, 3)
	}
	l.Remove(0)
	if e := l.Add(9); e != api.OK {
		t.Error(int(e))
	}
	check(t, l, 3, 7, 3, 9)
}

func TestTouch(t *testing.T) { // P18.1
	for _, x := range []struct {
		key  int
		want []int
	}{{5, []int{6, 7, 8, 5}}, {6, []int{5, 7, 8, 6}}, {7, []int{5, 6, 8, 7}}, {8, []int{5, 6, 7, 8}}} {
		for most := 4; most < 6; most++ {
			l := filled(t, most, 5, 6, 7, 8)
			for range 2 {
				if !l.Touch(x.key) {
					t.Error(x.key)
				}
				check(t, l, most, x.want...)
			}
		}
	}
	l := filled(t, 4, 5, 6)
	for _, k := range []int{0, 4, 7, -5, math.MaxInt} {
		if l.Touch(k) {
			t.Error(k)
		}
		check(t, l, 4, 5, 6)
	}
	if New[int](1).Touch(0) {
		t.Error("of none")
	}
	l = filled(t, 1, 5)
	if !l.Touch(5) {
		t.Error("of one")
	}
	check(t, l, 1, 5)
}

func TestRemove(t *testing.T) { // P18.1
	for _, x := range []struct {
		key  int
		want []int
	}{{5, []int{6, 7, 8}}, {6, []int{5, 7, 8}}, {7, []int{5, 6, 8}}, {8, []int{5, 6, 7}}} {
		l := filled(t, 4, 5, 6, 7, 8)
		if !l.Remove(x.key) {
			t.Error(x.key)
		}
		for range 2 {
			check(t, l, 4, x.want...)
			if l.Remove(x.key) || l.Touch(x.key) {
				t.Error("once more", x.key)
			}
		}
		if e := l.Add(x.key); e != api.OK {
			t.Error(int(e))
		}
		check(t, l, 4, append(x.want, x.key)...)
	}
	l := filled(t, 2, 5, 6)
	for _, k := range []int{0, 7, -5, math.MinInt} {
		if l.Remove(k) {
			t.Error(k)
		}
		check(t, l, 2, 5, 6)
	}
	l.Remove(5)
	l.Remove(6)
	check(t, l, 2)
	if l.Remove(0) || l.Remove(6) {
		t.Error("of none")
	}
}

func TestHasAndFullAndLen(t *testing.T) { // P18.2
	l := New[int](3)
	for n := range 3 {
		if l.Has(n) || l.Full() || l.Len() != n {
			t.Error(n)
		}
		l.Add(n)
		if !l.Has(n) {
			t.Error(n)
		}
	}
	if !l.Full() || l.Len() != 3 || l.Has(3) {
		t.Error(l.Len())
	}
	l.Add(3)
	l.Touch(1)
	if !l.Full() || l.Len() != 3 || l.Has(3) {
		t.Error(l.Len())
	}
	l.Remove(1)
	if l.Full() || l.Len() != 2 || l.Has(1) {
		t.Error(l.Len())
	}
}

func TestOldestAndNewest(t *testing.T) { // P18.2
	l := New[string](2)
	tell := func(oldest, newest string, some bool) {
		t.Helper()
		for range 2 {
			if k, ok := l.Oldest(); k != oldest || ok != some {
				t.Error(k, ok)
			}
			if k, ok := l.Newest(); k != newest || ok != some {
				t.Error(k, ok)
			}
		}
	}
	tell("", "", false)
	l.Add("a")
	tell("a", "a", true)
	l.Add("b")
	tell("a", "b", true)
	l.Touch("a")
	tell("b", "a", true)
	l.Remove("a")
	tell("b", "b", true)
	l.Remove("b")
	tell("", "", false)
}

func TestAll(t *testing.T) { // P18.2
	l := filled(t, 5, 1, 2, 3, 4)
	l.Remove(2)
	l.Touch(1)
	all := l.All()
	for range 2 {
		var keys []int
		for k := range all {
			keys = append(keys, k)
		}
		if !slices.Equal(keys, []int{3, 4, 1}) {
			t.Error(keys)
		}
	}
	n := 0
	for k := range all {
		n++
		if k == 4 {
			break
		}
	}
	if n != 2 {
		t.Error("it went on:", n)
	}
	check(t, l, 5, 3, 4, 1)
	if New[int](1).All() == nil {
		t.Fatal("no iterator")
	}
	for k := range New[int](1).All() {
		t.Error(k)
	}
}

func TestAllWhileItChanges(t *testing.T) { // P18.2
	l := filled(t, 4, 1, 2, 3)
	var keys []int
	for k := range l.All() {
		keys = append(keys, k)
		l.Touch(1)
		l.Remove(2)
		l.Add(10 + k)
	}
	if !slices.Equal(keys, []int{1, 2, 3}) {
		t.Error(keys)
	}
	check(t, l, 4, 3, 11, 12, 1)
}

func TestClone(t *testing.T) { // P18.2
	l := filled(t, 4, 1, 2, 3)
	l.Touch(1)
	c := l.Clone()
	check(t, c, 4, 2, 3, 1)
	l.Touch(2)
	l.Remove(3)
	l.Add(5)
	check(t, l, 4, 1, 2, 5)
	check(t, c, 4, 2, 3, 1)
	c.Add(6)
	if e := c.Add(7); e != api.ErrFull {
		t.Error("its limit is another", int(e))
	}
	c.Touch(3)
	c.Remove(1)
	check(t, l, 4, 1, 2, 5)
	check(t, c, 4, 2, 6, 3)
	c = New[int](7).Clone()
	check(t, c, 7)
	c = filled(t, 2, 1, 2).Clone()
	check(t, c, 2, 1, 2)
}

func TestNoList(t *testing.T) { // P18.2, rule 1
	for _, l := range []*List[string]{nil, {}} {
		for range 2 {
			if e := l.Add("a"); e != api.ErrNil {
				t.Error(int(e))
			}
			if l.Touch("a") || l.Remove("a") || l.Has("a") || l.Has("") || l.Full() || l.Len() != 0 || l.Clone() != nil {
				t.Error("something is there")
			}
			if k, ok := l.Oldest(); k != "" || ok {
				t.Error(k, ok)
			}
			if k, ok := l.Newest(); k != "" || ok {
				t.Error(k, ok)
			}
			if l.All() == nil {
				t.Fatal("no iterator")
			}
			for k := range l.All() {
				t.Error(k)
			}
		}
	}
	for _, l := range []*List[any]{nil, {}} {
		if l.Add([]int{}) != api.ErrNil || l.Touch([]int{}) || l.Remove([]int{}) || l.Has([]int{}) {
			t.Error("something is there")
		}
	}
}

func TestExample(t *testing.T) { // P18.1, P18.3
	l := New[string](3)
	for _, k := range []string{"a", "b", "c"} {
		l.Add(k)
	}
	l.Touch("a")
	if keys := listed(l); !slices.Equal(keys, []string{"b", "c", "a"}) {
		t.Error(keys)
	}
}

func TestKeysOfOtherTypes(t *testing.T) { // P18.1, P18.2
	l := New[api.Contact](2)
	a := api.Contact{ID: api.ID{1}, Addr: api.Addr{Host: 1, Port: 2}}
	b := a
	b.Addr.Port = 3
	if l.Add(a) != api.OK || l.Add(a) != api.ErrThere || l.Has(b) || l.Add(b) != api.OK || !l.Touch(a) {
		t.Error("contacts")
	}
	if k, ok := l.Oldest(); k != b || !ok {
		t.Error(k, ok)
	}
	n := New[struct{}](2)
	if n.Add(struct{}{}) != api.OK || n.Add(struct{}{}) != api.ErrThere || n.Len() != 1 || !n.Remove(struct{}{}) {
		t.Error("the one key of its type")
	}
	f := New[float64](2)
	if zero := 0.0; f.Add(zero) != api.OK || f.Add(-zero) != api.ErrThere || f.Add(math.Copysign(0, -1)) != api.ErrThere || !f.Touch(math.Copysign(0, -1)) {
		t.Error("zeros")
	}
}

func TestKeysThatAreNotTheirOwnSame(t *testing.T) { // P18.1, rules 1 and 6
	f := New[float64](3)
	for n := range 3 {
		if e := f.Add(math.NaN()); e != api.OK || f.Len() != n+1 {
			t.Error(int(e))
		}
	}
	if f.Has(math.NaN()) || f.Touch(math.NaN()) || f.Remove(math.NaN()) || f.Add(math.NaN()) != api.ErrFull || f.Clone().Len() != 3 {
		t.Error("found")
	}
	l := New[any](4)
	odd := []any{[]int{1}, map[int]int{}, struct{ x any }{[]int{}}}
	for _, k := range odd {
		if e := l.Add(k); e != api.OK {
			t.Error(int(e))
		}
		if l.Has(k) || l.Touch(k) || l.Remove(k) {
			t.Error("found")
		}
	}
	if l.Add("a") != api.OK || l.Add("a") != api.ErrThere || l.Add(odd[0]) != api.ErrFull || !l.Has("a") {
		t.Error(l.Len())
	}
	if c := l.Clone(); c.Len() != 4 || !c.Remove("a") || c.Len() != 3 || l.Len() != 4 {
		t.Error(c.Len())
	}
	if k, ok := l.Newest(); k != "a" || !ok {
		t.Error(k, ok)
	}
	n := New[any](2)
	if n.Add(nil) != api.OK || n.Add(nil) != api.ErrThere || n.Add(0) != api.OK || n.Add(int8(0)) != api.ErrFull {
		t.Error(n.Len())
	}
}

func TestListOfMost(t *testing.T) { // P18.1, P18.3
	l := New[string](65536)
	for i := range 65536 {
		if e := l.Add(strconv.Itoa(i)); e != api.OK {
			t.Fatal(i, int(e))
		}
	}
	if l.Add("more") != api.ErrFull || l.Add("65535") != api.ErrThere || !l.Full() || l.Len() != 65536 {
		t.Error(l.Len())
	}
	for i := range 65536 {
		if k, ok := l.Oldest(); k != strconv.Itoa(i) || !ok || !l.Touch(k) {
			t.Fatal(i, k, ok)
		}
	}
	c := l.Clone()
	for i := range 65536 {
		if k, ok := l.Oldest(); k != strconv.Itoa(i) || !ok || !l.Remove(k) {
			t.Fatal(i, k, ok)
		}
	}
	if l.Len() != 0 || !c.Full() {
		t.Error(l.Len(), c.Len())
	}
}

func TestAsThePlainOne(t *testing.T) { // P18.1, P18.2, P18.3
	for seed := range int64(60) {
		r := rand.New(rand.NewSource(seed))
		p := plain{most: 1 + r.Intn(8)}
		l := New[int](p.most)
		for step := range 300 {
			other, before := l, p
			if r.Intn(10) == 0 {
				l = l.Clone()
			}
			k := r.Intn(12)
			switch r.Intn(4) {
			case 0:
				if ok, want := l.Touch(k), p.touch(k); ok != want {
					t.Fatal(seed, step, "touch", k, ok)
				}
			case 1:
				if ok, want := l.Remove(k), p.remove(k); ok != want {
					t.Fatal(seed, step, "remove", k, ok)
				}
			default:
				if e, want := l.Add(k), p.add(k); e != want {
					t.Fatal(seed, step, "add", k, int(e))
				}
			}
			if !isSame(l, p.order(), p.most) || other != l && !isSame(other, before.order(), p.most) {
				t.Fatal(seed, step, p.order(), listed(l))
			}
		}
	}
}
