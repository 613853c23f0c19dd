package timers

import (
	"math"
	"math/rand"
	"slices"
	"testing"

	"signpost/api"
)

const last = math.MaxUint64

// entry is a timer, with the turn in which it was last set.
type entry struct {
	key      string
	at, turn uint64
}

// plain is a table by its chapter's words: a heap of timers without an order, sorted each time it is asked for.
type plain struct {
	most  int
	turns uint64
	heap  []entry
}

func (p *plain) find(k string) int {
	return slices.IndexFunc(p.heap, func(x entry) bool { return x.key == k })
}

func (p *plain) set(k string, at uint64) api.Errno {
	i := p.find(k)
	if i < 0 && len(p.heap) >= p.most {
		return api.ErrFull
	}
	p.turns++
	if i < 0 {
		p.heap = append(p.heap, entry{})
		i = len(p.heap) - 1
	}
	p.heap[i] = entry{k, at, p.turns}
	return api.OK
}

func (p *plain) cancel(k string) bool {
	i := p.find(k)
	if i < 0 {
		return false
	}
	p.heap[i] = p.heap[len(p.heap)-1]
	p.heap = p.heap[:len(p.heap)-1]
	return true
}

func (p *plain) order() []entry {
	l := slices.Clone(p.heap)
	slices.SortFunc(l, func(a, b entry) int {
		if a.at < b.at || a.at == b.at && a.turn < b.turn {
			return -1
		}
		return 1
	})
	return l
}

func (p *plain) due(now uint64) []string {
	var keys []string
	for _, x := range p.order() {
		if x.at <= now && x.at != last {
			keys = append(keys, x.key)
		}
	}
	for _, k := range keys {
		p.cancel(k)
	}
	return keys
}

func listed[K comparable](t *Table[K]) (keys []K, ats []uint64) {
	for k, at := range t.All() {
		keys, ats = append(keys, k), append(ats, at)
	}
	return keys, ats
}

// isSame tells whether all that a table tells is what the plain one tells; names are keys it may have.
func isSame(x *Table[string], p *plain, names []string) bool {
	order := p.order()
	keys, ats := listed(x)
	if len(keys) != len(order) || x.Len() != len(order) {
		return false
	}
	for i, e := range order {
		if keys[i] != e.key || ats[i] != e.at {
			return false
		}
	}
	for _, k := range names {
		at, ok := x.At(k)
		i := p.find(k)
		if ok != (i >= 0) || !ok && at != 0 || ok && at != p.heap[i].at {
			return false
		}
	}
	at, ok := x.Next()
	if len(order) == 0 {
		return at == 0 && !ok
	}
	return at == order[0].at && ok
}

func checkList(t *testing.T, x *Table[string], keys ...string) {
	t.Helper()
	if got, _ := listed(x); !slices.Equal(got, keys) || x.Len() != len(keys) {
		t.Errorf("%q, not %q", got, keys)
	}
}

// filled is a table of some timers: a and b at 3, c at 5, d at the last tick.
func filled(t *testing.T) *Table[string] {
	t.Helper()
	x := New[string](4)
	for _, e := range []entry{{key: "d", at: last}, {key: "a", at: 3}, {key: "c", at: 5}, {key: "b", at: 3}} {
		if x.Set(e.key, e.at) != api.OK {
			t.Fatal(e)
		}
	}
	return x
}

func TestNew(t *testing.T) { // P15.1
	for _, most := range []int{1, 2, 512, api.MaxQueue - 1, api.MaxQueue} {
		x := New[string](most)
		if x == nil || x.Len() != 0 {
			t.Fatal(most)
		}
		if _, ok := x.Next(); ok || len(x.Due(last)) != 0 || x.Cancel("") {
			t.Error(most, "is not empty")
		}
	}
	for _, most := range []int{0, -1, api.MaxQueue + 1, math.MaxInt32, math.MaxInt, math.MinInt} {
		if New[string](most) != nil || New[int](most) != nil {
			t.Error(most)
		}
	}
}

func TestSetAndAt(t *testing.T) { // P15.1
	x := filled(t)
	for k, want := range map[string]uint64{"a": 3, "b": 3, "c": 5, "d": last} {
		if at, ok := x.At(k); at != want || !ok {
			t.Error(k, at, ok)
		}
	}
	for _, k := range []string{"", "e", "A", "a\x00"} {
		if at, ok := x.At(k); at != 0 || ok {
			t.Error(k, at, ok)
		}
	}
	if x.Set("a", 9) != api.OK || x.Len() != 4 {
		t.Error("again")
	}
	if at, ok := x.At("a"); at != 9 || !ok {
		t.Error(at, ok)
	}
	checkList(t, x, "b", "c", "a", "d")
}

func TestSetToZeroTick(t *testing.T) { // P15.1
	x := New[int](2)
	if x.Set(0, 0) != api.OK || x.Len() != 1 {
		t.Error("not set")
	}
	if at, ok := x.At(0); at != 0 || !ok {
		t.Error(at, ok)
	}
	if at, ok := x.Next(); at != 0 || !ok {
		t.Error(at, ok)
	}
	if l := x.Due(0); !slices.Equal(l, []int{0}) || x.Len() != 0 {
		t.Error(l)
	}
}

func TestSetWhereItIsFull(t *testing.T) { // P15.1
	x := filled(t)
	for _, at := range []uint64{0, 3, 4, last} {
		if e := x.Set("e", at); e != api.ErrFull {
			t.Error(at, int(e))
		}
		checkList(t, x, "a", "b", "c", "d")
	}
	// One that is there is set all the same.
	if e := x.Set("c", 1); e != api.OK {
		t.Error(int(e))
	}
	checkList(t, x, "c", "a", "b", "d")
	x.Cancel("a")
	if e := x.Set("e", 2); e != api.OK {
		t.Error("one was taken away", int(e))
	}
	if e := x.Set("a", 2); e != api.ErrFull {
		t.Error("full again", int(e))
	}
	x.Due(2)
	if e := x.Set("a", 2); e != api.OK {
		t.Error("some were due", int(e))
	}
	checkList(t, x, "a", "b", "d")
}

func TestTableOfMost(t *testing.T) { // P15.1
	x := New[int](api.MaxQueue)
	for k := range api.MaxQueue {
		if e := x.Set(k, uint64(k)); e != api.OK {
			t.Fatal(k, int(e))
		}
	}
	if e := x.Set(-1, 0); e != api.ErrFull || x.Len() != api.MaxQueue {
		t.Error(int(e))
	}
	if l := x.Due(api.MaxQueue); len(l) != api.MaxQueue || !slices.IsSorted(l) || x.Len() != 0 {
		t.Error(len(l))
	}
}

func TestCancel(t *testing.T) { // P15.1
	x := filled(t)
	for _, k := range []string{"", "e"} {
		if x.Cancel(k) {
			t.Error(k)
		}
	}
	checkList(t, x, "a", "b", "c", "d")
	for _, step := range []struct {
		key  string
		left []string
	}{{"b", []string{"a", "c", "d"}}, {"d", []string{"a", "c"}}, {"a", []string{"c"}}, {"c", nil}} {
		if !x.Cancel(step.key) || x.Cancel(step.key) {
			t.Error(step.key)
		}
		if at, ok := x.At(step.key); at != 0 || ok {
			t.Error(step.key, at)
		}
		checkList(t, x, step.left...)
	}
	if at, ok := x.Next(); at != 0 || ok || len(x.Due(last)) != 0 {
		t.Error("none are left", at)
	}
}

func TestNext(t *testing.T) { // P15.2
	x := filled(t)
	for _, want := range []uint64{3, 5, last} {
		if at, ok := x.Next(); at != want || !ok {
			t.Error(at, ok)
		}
		if at, ok := x.Next(); at != want || !ok {
			t.Error("it was taken away:", at, ok)
		}
		if len(x.Due(want)) == 0 {
			x.Cancel("d")
		}
	}
	if at, ok := x.Next(); at != 0 || ok {
		t.Error(at, ok)
	}
}

func TestDue(t *testing.T) { // P15.2
	for now, want := range map[uint64][]string{0: nil, 2: nil, 3: {"a", "b"}, 4: {"a", "b"}, 5: {"a", "b", "c"}, last - 1: {"a", "b", "c"}, last: {"a", "b", "c"}} {
		x := filled(t)
		if l := x.Due(now); !slices.Equal(l, want) {
			t.Errorf("%d: %q", now, l)
		}
		checkList(t, x, []string{"a", "b", "c", "d"}[len(want):]...)
		if l := x.Due(now); len(l) != 0 {
			t.Errorf("%d, twice: %q", now, l)
		}
	}
}

func TestOrderOfOneTick(t *testing.T) { // P15.2
	x := New[string](5)
	x.Set("a", 5)
	x.Set("b", 3)
	x.Set("a", 3)
	c := x.Clone()
	if l := x.Due(4); !slices.Equal(l, []string{"b", "a"}) {
		t.Errorf("%q", l)
	}
	// Also where its tick does not change, one that is set again comes last.
	c.Set("c", 3)
	c.Set("b", 3)
	checkList(t, c, "a", "c", "b")
	c.Set("a", 2)
	c.Set("a", 3)
	c.Cancel("c")
	c.Set("c", 3)
	checkList(t, c, "b", "a", "c")
	if l := c.Due(3); !slices.Equal(l, []string{"b", "a", "c"}) {
		t.Errorf("%q", l)
	}
}

func TestAll(t *testing.T) { // P15.2
	x := filled(t)
	all := x.All()
	for range 2 {
		var keys []string
		var ats []uint64
		for k, at := range all {
			keys, ats = append(keys, k), append(ats, at)
		}
		if !slices.Equal(keys, []string{"a", "b", "c", "d"}) || !slices.Equal(ats, []uint64{3, 3, 5, last}) {
			t.Error(keys, ats)
		}
	}
	n := 0
	for k := range all {
		n++
		if k == "b" {
			break
		}
	}
	if n != 2 || x.Len() != 4 {
		t.Error("it went on:", n)
	}
	for range New[string](1).All() {
		t.Error("there is none")
	}
}

func TestAllWhileItChanges(t *testing.T) { // P15.2
	x := filled(t)
	var keys []string
	for k := range x.All() {
		keys = append(keys, k)
		x.Due(4)
		x.Cancel(k)
		x.Set("e", 0)
	}
	if !slices.Equal(keys, []string{"a", "b", "c", "d"}) {
		t.Errorf("%q", keys)
	}
	checkList(t, x, "e")
}

func TestClone(t *testing.T) { // P15.2
	x := filled(t)
	c := x.Clone()
	checkList(t, c, "a", "b", "c", "d")
	if e := c.Set("e", 1); e != api.ErrFull {
		t.Error("its limit is another:", int(e))
	}
	x.Set("a", 7)
	x.Cancel("c")
	x.Set("e", 0)
	checkList(t, c, "a", "b", "c", "d")
	c.Due(3)
	c.Set("c", 1)
	checkList(t, x, "e", "b", "a", "d")
	checkList(t, c, "c", "d")
	if c = New[string](3).Clone(); c.Len() != 0 || c.Set("a", 1) != api.OK {
		t.Error("of none")
	}
}

func TestAnswersAreTheirOwn(t *testing.T) { // P15.2, rule 4
	x := filled(t)
	c := x.Clone()
	l := x.Due(4)
	x.Set("e", 9)
	c.Due(5)
	l[0], l[1] = "x", "y"
	l = append(l, "z")
	checkList(t, x, "c", "e", "d")
	checkList(t, c, "d")
	if !slices.Equal(l, []string{"x", "y", "z"}) {
		t.Errorf("%q", l)
	}
}

func TestNoTable(t *testing.T) { // P15.2, rule 1
	for _, x := range []*Table[string]{nil, {}} {
		for range 2 {
			if e := x.Set("a", 1); e != api.ErrNil {
				t.Error(int(e))
			}
			if x.Cancel("a") || x.Len() != 0 || len(x.Due(last)) != 0 || x.Clone() != nil {
				t.Error("something is there")
			}
			if at, ok := x.At("a"); at != 0 || ok {
				t.Error(at, ok)
			}
			if at, ok := x.Next(); at != 0 || ok {
				t.Error(at, ok)
			}
			if x.All() == nil {
				t.Fatal("no iterator")
			}
			for k, at := range x.All() {
				t.Error(k, at)
			}
		}
	}
}

func TestOtherKeys(t *testing.T) { // P15.1
	x := New[api.Addr](2)
	x.Set(api.Addr{Host: 1, Port: 2}, 5)
	x.Set(api.Addr{Host: 1, Port: 3}, 4)
	if at, ok := x.At(api.Addr{Host: 1, Port: 2}); at != 5 || !ok {
		t.Error(at, ok)
	}
	if e := x.Set(api.Addr{Host: 2, Port: 2}, 5); e != api.ErrFull {
		t.Error(int(e))
	}
	a, b := new(int), new(int)
	y := New[*int](2)
	y.Set(a, 2)
	y.Set(b, 1)
	if l := y.Due(2); len(l) != 2 || l[0] != b || l[1] != a {
		t.Error("pointers")
	}
}

func TestKeysThatAreNotTheirOwnSame(t *testing.T) { // P15.1, P15.2, rule 1
	x := New[float64](2)
	if x.Set(math.NaN(), 1) != api.OK || x.Set(math.NaN(), 2) != api.OK || x.Set(math.NaN(), 3) != api.ErrFull || x.Len() != 2 {
		t.Error("set")
	}
	if _, ok := x.At(math.NaN()); ok || x.Cancel(math.NaN()) {
		t.Error("found")
	}
	c := x.Clone()
	if l := x.Due(2); len(l) != 2 || x.Len() != 0 || c.Len() != 2 {
		t.Error(l)
	}
}

func TestKeysThatCannotBeCompared(t *testing.T) { // P15.1, rule 1
	x := New[any](4)
	key := []int{1}
	if x.Set(key, 2) != api.OK || x.Set(key, 1) != api.OK || x.Set("a", 3) != api.OK || x.Len() != 3 {
		t.Error("set")
	}
	if _, ok := x.At(key); ok || x.Cancel(key) {
		t.Error("found")
	}
	if at, ok := x.At("a"); at != 3 || !ok || !x.Cancel("a") {
		t.Error(at, ok)
	}
	if x.Set(key, 0) != api.OK || x.Set(key, 0) != api.OK || x.Set(key, 0) != api.ErrFull {
		t.Error("full")
	}
	if l := x.Due(1); len(l) != 3 || x.Len() != 1 {
		t.Error(l)
	}
}

// someTick draws small ticks, many of them the same, and some at the end.
func someTick(r *rand.Rand) uint64 {
	if r.Intn(8) == 0 {
		return last - uint64(r.Intn(3))
	}
	return uint64(r.Intn(12))
}

func TestAsThePlainOne(t *testing.T) { // P15.1, P15.2
	names := []string{"", "a", "b", "c", "d", "e", "f", "g"}
	for seed := range int64(60) {
		r := rand.New(rand.NewSource(seed))
		most := 1 + r.Intn(9)
		x, p := New[string](most), &plain{most: most}
		for step := range 150 {
			k, at := names[r.Intn(len(names))], someTick(r)
			old, other := x, *p
			other.heap = slices.Clone(p.heap)
			if r.Intn(10) == 0 {
				x = x.Clone()
			}
			switch r.Intn(8) {
			case 0:
				if x.Cancel(k) != p.cancel(k) {
					t.Fatal(seed, step, "cancel", k)
				}
			case 1:
				if l, want := x.Due(at), p.due(at); !slices.Equal(l, want) {
					t.Fatal(seed, step, "due", at, l, want)
				}
			default:
				if e, want := x.Set(k, at), p.set(k, at); e != want {
					t.Fatal(seed, step, "set", k, at, int(e))
				}
			}
			if !isSame(x, p, names) || old != x && !isSame(old, &other, names) {
				t.Fatal(seed, step, p.order())
			}
		}
	}
}

func TestOnce(t *testing.T) { // P15.3
	r := rand.New(rand.NewSource(153))
	for range 100 {
		x := New[int](40)
		pending := map[int]uint64{}
		for now := range uint64(60) {
			for range r.Intn(4) {
				k, at := r.Intn(40), now+uint64(r.Intn(9))
				if x.Set(k, at) == api.OK {
					pending[k] = at
				}
			}
			if k := r.Intn(40); r.Intn(3) == 0 && x.Cancel(k) {
				delete(pending, k)
			}
			for _, k := range x.Due(now) {
				if at, there := pending[k]; !there || at != now {
					t.Fatal(now, k, at, there)
				}
				delete(pending, k)
			}
		}
		if x.Len() != len(pending) {
			t.Fatal(x.Len(), pending)
		}
		if l := x.Due(last); len(l) != len(pending) || x.Len() != 0 {
			t.Fatal("what is left comes in the end:", l, pending)
		}
	}
}

func TestNotBeforeItsTick(t *testing.T) { // P15.3
	x := New[string](3)
	x.Set("a", 5)
	x.Set("b", last)
	for now := range uint64(5) {
		if l := x.Due(now); len(l) != 0 {
			t.Error(now, l)
		}
	}
	x.Set("a", 8)
	if l := x.Due(7); len(l) != 0 {
		t.Error("its old tick", l)
	}
	if l := x.Due(8); !slices.Equal(l, []string{"a"}) {
		t.Error(l)
	}
	if l := x.Due(last); len(l) != 0 {
		t.Error("the last tick never comes", l)
	}
	x.Set("a", 8)
	if l := x.Due(8); !slices.Equal(l, []string{"a"}) {
		t.Error("set once more", l)
	}
	checkList(t, x, "b")
}
