package roster

import (
	"math/rand"
	"slices"
	"sort"
	"testing"

	"signpost/api"
	"signpost/inst"
)

const last = 1<<64 - 1

// one is a good instance of the publisher p.
func one(p byte, seq uint64) api.Instance {
	return api.Instance{Publisher: api.ID{19: p}, Seq: seq, Born: 5, Life: 10, Port: 80, Target: "a.b"}
}

// living is one that ends at the tick 5 + life.
func living(p byte, life uint32) api.Instance {
	i := one(p, 1)
	i.Life = life
	return i
}

// many are n good instances of publishers that increase.
func many(n int) []api.Instance {
	var l []api.Instance
	for p := range n {
		i := one(0, uint64(p))
		i.Publisher = api.ID{byte(p >> 8), byte(p), 7: 3}
		l = append(l, i)
	}
	return l
}

func ones(l ...byte) []api.Instance {
	var out []api.Instance
	for _, p := range l {
		out = append(out, one(p, 1))
	}
	return out
}

// greatest is an instance that has the greatest of all.
func greatest() api.Instance {
	i := api.Instance{Seq: last, Born: last, Life: api.MaxLife, Priority: 65535, Weight: 65535, Port: 65535, Target: "z"}
	for at := range i.Publisher {
		i.Publisher[at] = 255
	}
	return i
}

// rights are good rosters, the edges among them.
func rights() [][]api.Instance {
	return [][]api.Instance{
		nil, {}, ones(0), ones(1, 2), ones(1, 5, 9), many(2), many(15), many(16), {inst.Stone(one(3, 9))}, {greatest()}, {one(0, 1), inst.Stone(one(1, 1)), greatest()},
		{{Publisher: api.ID{0: 1, 1: 255}, Life: 1, Port: 1, Target: "a"}, {Publisher: api.ID{0: 2}, Life: 1, Gone: true}, {Publisher: api.ID{0: 127}, Life: 1, Gone: true}, {Publisher: api.ID{0: 128}, Life: 1, Gone: true}},
	}
}

// wrongOnes are instances that are not good.
func wrongOnes() []api.Instance {
	l := []api.Instance{{}, {Publisher: api.ID{19: 2}, Gone: true}}
	for _, change := range []func(i *api.Instance){
		func(i *api.Instance) { i.Life = 0 }, func(i *api.Instance) { i.Life = api.MaxLife + 1 }, func(i *api.Instance) { i.Port = 0 },
		func(i *api.Instance) { i.Target = "" }, func(i *api.Instance) { i.Target = "A" }, func(i *api.Instance) { i.Target = "a..b" }, func(i *api.Instance) { i.Gone = true },
	} {
		i := one(2, 3)
		change(&i)
		l = append(l, i)
	}
	return l
}

// wrongs are rosters that are not good, each for one reason, and some for several.
func wrongs() [][]api.Instance {
	l := [][]api.Instance{
		many(17), many(18), many(255), many(256), many(257), many(272), many(3000),
		ones(1, 1), ones(2, 1), ones(1, 3, 2), ones(1, 2, 2), ones(1, 2, 1), {one(1, 1), one(1, 2)}, {one(1, 2), one(1, 1)}, {one(1, 1), inst.Stone(one(1, 1))},
		{greatest(), one(0, 1)}, {{Publisher: api.ID{0: 128}, Life: 1, Gone: true}, {Publisher: api.ID{0: 127}, Life: 1, Gone: true}},
		append(many(16), greatest()), append(many(15), one(0, 1)), append(many(16), many(1)...),
	}
	for _, i := range wrongOnes() {
		i.Publisher = api.ID{19: 2}
		l = append(l, []api.Instance{i}, []api.Instance{one(1, 1), i, one(3, 1)}, []api.Instance{i, one(3, 1)}, []api.Instance{one(1, 1), i})
		i.Publisher = api.ID{0: 255}
		l = append(l, append(many(15), i), append(many(16), i))
	}
	return l
}

// ticks are such at which some of those above live, and others do not.
func ticks() []uint64 { return []uint64{0, 4, 5, 6, 10, 14, 15, 16, 1 << 32, last - 1, last} }

// random has a good instance of few publishers, few numbers and few ends.
func random(r *rand.Rand, publishers int) api.Instance {
	i := api.Instance{Seq: uint64(r.Intn(4)), Born: uint64(r.Intn(3)), Life: 1 + uint32(r.Intn(3)), Port: 1 + uint16(r.Intn(2)), Target: "a"}
	p := r.Intn(publishers)
	i.Publisher = api.ID{0: byte(p % 5 * 60), 10: byte(p)}
	if r.Intn(3) == 0 {
		i.Gone, i.Port, i.Target = true, 0, ""
	}
	return i
}

// collected has a good roster of random instances.
func collected(r *rand.Rand, publishers int) []api.Instance {
	var l []api.Instance
	for range r.Intn(30) {
		l = plainPut(l, random(r, publishers))
	}
	return l
}

func before(a, b api.ID) bool { return string(a[:]) < string(b[:]) }

// plainPut is the promise, word by word, for a good roster and a good instance.
func plainPut(l []api.Instance, i api.Instance) []api.Instance {
	out := slices.Clone(l)
	for at := range out {
		if out[at].Publisher == i.Publisher {
			if inst.Cmp(i, out[at]) == 1 {
				out[at] = i
			}
			return out
		}
	}
	out = append(out, i)
	sort.Slice(out, func(a, b int) bool { return before(out[a].Publisher, out[b].Publisher) })
	if len(out) <= 16 {
		return out
	}
	goes := 0
	for at := range out {
		a, b := inst.End(out[at]), inst.End(out[goes])
		if a < b || a == b && before(out[goes].Publisher, out[at].Publisher) {
			goes = at
		}
	}
	return append(slices.Clone(out[:goes]), out[goes+1:]...)
}

func TestGood(t *testing.T) { // P12.1
	for _, l := range rights() {
		if !Good(l) {
			t.Errorf("%v is good", l)
		}
	}
	for _, l := range wrongs() {
		if Good(l) {
			t.Errorf("%.300v is not good", l)
		}
	}
}

func checkPut(t *testing.T, l []api.Instance, i api.Instance, want []api.Instance) {
	t.Helper()
	before := slices.Clone(l)
	got, changed := Put(l, i)
	if !slices.Equal(got, want) || changed != !slices.Equal(want, before) {
		t.Errorf("%v with %v: %v %v", l, i, got, changed)
	}
	if !slices.Equal(l, before) {
		t.Errorf("%v became %v", before, l)
	}
}

func TestPut(t *testing.T) { // P12.1
	checkPut(t, nil, one(2, 1), []api.Instance{one(2, 1)})
	checkPut(t, ones(2), one(1, 1), ones(1, 2))
	checkPut(t, ones(2), one(3, 1), ones(2, 3))
	checkPut(t, ones(2, 9), one(5, 1), ones(2, 5, 9))
	checkPut(t, ones(2, 9), one(9, 1), ones(2, 9))
	checkPut(t, ones(2, 9), one(9, 0), ones(2, 9))
	checkPut(t, ones(2, 9), one(9, 2), []api.Instance{one(2, 1), one(9, 2)})
	checkPut(t, ones(2, 9), one(2, last), []api.Instance{one(2, last), one(9, 1)})
	checkPut(t, ones(2, 9), inst.Stone(one(2, 1)), []api.Instance{inst.Stone(one(2, 1)), one(9, 1)})
	checkPut(t, []api.Instance{inst.Stone(one(2, 1))}, one(2, 2), []api.Instance{inst.Stone(one(2, 1))})
	checkPut(t, []api.Instance{inst.Stone(one(2, 1))}, one(2, 3), []api.Instance{one(2, 3)})
	checkPut(t, []api.Instance{living(2, 10)}, living(2, 9), []api.Instance{living(2, 10)})
	checkPut(t, []api.Instance{living(2, 10)}, living(2, 11), []api.Instance{living(2, 11)})
	checkPut(t, []api.Instance{{Publisher: api.ID{0: 127}, Life: 1, Gone: true}}, api.Instance{Publisher: api.ID{0: 128}, Life: 1, Gone: true}, []api.Instance{{Publisher: api.ID{0: 127}, Life: 1, Gone: true}, {Publisher: api.ID{0: 128}, Life: 1, Gone: true}})
}

func TestPutOfTheExample(t *testing.T) { // P12.1
	l, changed := Put([]api.Instance{one(2, 1)}, one(2, 2))
	if !changed || len(l) != 1 || l[0] != one(2, 2) {
		t.Error(l, changed)
	}
}

// full is a roster of the publishers 2, 4, .. 32, of which that of 10 and that of 20 end first.
func full() []api.Instance {
	var l []api.Instance
	for p := byte(2); p <= 32; p += 2 {
		l = append(l, living(p, 20+uint32(p)))
	}
	l[4].Life, l[9].Life = 7, 7
	return l
}

func without(l []api.Instance, p byte) []api.Instance {
	return slices.DeleteFunc(slices.Clone(l), func(i api.Instance) bool { return i.Publisher == api.ID{19: p} })
}

func TestPutIntoAFullOne(t *testing.T) { // P12.1
	l := full()
	for _, p := range []byte{1, 3, 11, 19, 21, 33} {
		with := slices.Clone(l)
		with = append(with, living(p, 8))
		slices.SortFunc(with, byPublisher)
		checkPut(t, l, living(p, 8), without(with, 20))
		checkPut(t, l, living(p, 6), l)
		// Of several that end first, the one of the greatest publisher goes, whichever is the new one.
		with[slices.IndexFunc(with, func(i api.Instance) bool { return i.Publisher == api.ID{19: p} })].Life = 7
		if p > 20 {
			checkPut(t, l, living(p, 7), l)
		} else {
			checkPut(t, l, living(p, 7), without(with, 20))
		}
	}
	// The room is enough for a publisher that is there.
	shorter := living(10, 3)
	shorter.Seq = 2
	want := slices.Clone(l)
	want[4] = shorter
	checkPut(t, l, shorter, want)
	checkPut(t, l, living(10, 3), l)
	checkPut(t, l[:15], living(33, 1), append(slices.Clone(l[:15]), living(33, 1)))
}

func TestPutAtTheLastTick(t *testing.T) { // P12.1
	l := many(16)
	for at := range l {
		l[at].Born = last - uint64(at)%3 // all end at the last tick, though their sums are greater
	}
	i := l[3]
	i.Publisher[19] = 1
	i.Life = 1 << 30
	checkPut(t, l, i, append(slices.Insert(slices.Clone(l), 4, i)[:16:16], nil...))
	i.Publisher = api.ID{0: 255}
	checkPut(t, l, i, l)
	early := i
	early.Born = 0
	checkPut(t, l, early, l)
}

func TestPutWrong(t *testing.T) { // P12.1
	for _, l := range wrongs() {
		checkPut(t, l, one(4, 9), l)
		checkPut(t, l, one(1, 9), l)
		checkPut(t, l, api.Instance{}, l)
	}
	for _, l := range rights() {
		for _, i := range wrongOnes() {
			i.Seq = 99
			checkPut(t, l, i, l)
		}
	}
}

func TestPutMany(t *testing.T) { // P12.1, P12.5
	r := rand.New(rand.NewSource(121))
	for range 300 {
		publishers := 1 + r.Intn(40)
		newest := map[api.ID]api.Instance{}
		var l []api.Instance
		for range 60 {
			i := random(r, publishers)
			want := plainPut(l, i)
			checkPut(t, l, i, want)
			l, _ = Put(l, i)
			if !Good(l) {
				t.Fatal("not good:", l)
			}
			if old, there := newest[i.Publisher]; !there || inst.Cmp(i, old) > 0 {
				newest[i.Publisher] = i
			}
		}
		if publishers > 16 {
			continue
		}
		for p, i := range newest {
			if got, ok := Get(l, p); !ok || got != i || len(l) != len(newest) {
				t.Fatalf("%v of %d: %v, want %v", p, publishers, got, i)
			}
		}
	}
}

// room has l with spare room behind it, which is taken.
func room(l []api.Instance) ([]api.Instance, []api.Instance) {
	whole := append(slices.Clone(l), many(3)...)
	return whole[:len(l)], whole[len(l):]
}

func TestAnswersAreNewMemory(t *testing.T) { // rule 4, LANGUAGE 7
	for _, l := range rights() {
		for _, call := range []func(l []api.Instance) []api.Instance{
			func(l []api.Instance) []api.Instance { m, _ := Put(l, one(4, 1)); return m },
			func(l []api.Instance) []api.Instance { m, _ := Put(l, one(1, 0)); return m },
			func(l []api.Instance) []api.Instance { m, _ := Put(l, api.Instance{}); return m },
			func(l []api.Instance) []api.Instance { return Merge(l, nil) },
			func(l []api.Instance) []api.Instance { return Merge(l, ones(4, 6)) },
			func(l []api.Instance) []api.Instance { return Merge(nil, l) },
			func(l []api.Instance) []api.Instance { return Merge(l, many(17)) },
			func(l []api.Instance) []api.Instance { return Live(l, 7) },
			func(l []api.Instance) []api.Instance { return Sweep(l, 0) },
		} {
			arg, spare := room(l)
			got := call(arg)
			for at := range got {
				got[at] = greatest()
			}
			_ = append(got, greatest())
			if !slices.Equal(arg, l) || !slices.Equal(spare, many(3)) {
				t.Errorf("%v became %v", l, arg)
			}
		}
	}
}

func TestMerge(t *testing.T) { // P12.2
	for _, c := range []struct{ a, b, want []api.Instance }{
		{nil, nil, nil}, {nil, ones(1, 2), ones(1, 2)}, {ones(1, 2), nil, ones(1, 2)}, {ones(1, 3), ones(2), ones(1, 2, 3)}, {ones(2), ones(1, 3), ones(1, 2, 3)},
		{ones(1, 2), ones(1, 2), ones(1, 2)}, {ones(1, 2), []api.Instance{one(1, 2), one(2, 0)}, []api.Instance{one(1, 2), one(2, 1)}},
		{many(16), many(3), many(16)}, {many(3), many(16), many(16)},
		// Of those that end at once the greatest publisher goes, one after the other.
		{many(16), ones(1, 2, 3), append(ones(1, 2, 3), many(16)[:13]...)},
		{ones(1, 2, 3), many(16), append(ones(1, 2, 3), many(16)[:13]...)},
		{full(), []api.Instance{living(1, 8), living(33, 8)}, append([]api.Instance{living(1, 8)}, append(without(without(full(), 10), 20), living(33, 8))...)},
	} {
		if got := Merge(c.a, c.b); !slices.Equal(got, c.want) {
			t.Errorf("%v and %v: %v", c.a, c.b, got)
		}
	}
}

func TestMergeInOrder(t *testing.T) { // P12.2
	// 1 takes the place of 20 first, so that an older one of 20 is put; from behind, 20 would go for 1.
	older := living(20, 90)
	older.Seq = 0
	b := []api.Instance{living(1, 8), older}
	want := append([]api.Instance{living(1, 8)}, without(full(), 10)...)
	want[9] = older
	if got := Merge(full(), b); !slices.Equal(got, want) {
		t.Error(got)
	}
	want = append([]api.Instance{living(1, 8)}, without(full(), 20)...)
	if got := Merge(Merge(full(), b[1:]), b[:1]); !slices.Equal(got, want) {
		t.Error("from behind:", got)
	}
}

func TestMergeWrong(t *testing.T) { // P12.2
	for _, a := range wrongs() {
		for _, b := range append(rights(), ones(2, 1)) {
			if got := Merge(a, b); !slices.Equal(got, a) {
				t.Errorf("%.300v and %v: %.300v", a, b, got)
			}
			if got := Merge(b, a); !slices.Equal(got, b) {
				t.Errorf("%v and %.300v: %v", b, a, got)
			}
		}
	}
}

func TestMergeMany(t *testing.T) { // P12.2, P12.5
	r := rand.New(rand.NewSource(122))
	for range 3000 {
		publishers := 1 + r.Intn(40)
		a, b := collected(r, publishers), collected(r, publishers)
		want := a
		for _, i := range b {
			want = plainPut(want, i)
		}
		a0, b0 := slices.Clone(a), slices.Clone(b)
		got := Merge(a, b)
		if !slices.Equal(got, want) || !Good(got) || !slices.Equal(a, a0) || !slices.Equal(b, b0) {
			t.Fatalf("%v and %v: %v", a, b, got)
		}
		if publishers > 16 {
			continue
		}
		for _, i := range append(a, b...) {
			if kept, ok := Get(got, i.Publisher); !ok || inst.Cmp(kept, i) < 0 {
				t.Fatalf("%v of %v is not in %v", i, b, got)
			}
		}
	}
}

func TestMergeLaws(t *testing.T) { // P12.6
	r := rand.New(rand.NewSource(126))
	for range 2000 {
		publishers := 1 + r.Intn(16)
		a, b, c := collected(r, publishers), collected(r, publishers), collected(r, publishers)
		if ab := Merge(a, b); !slices.Equal(ab, Merge(b, a)) || !slices.Equal(ab, Merge(ab, b)) || !slices.Equal(ab, Merge(ab, a)) {
			t.Fatalf("%v and %v", a, b)
		}
		if !slices.Equal(Merge(a, Merge(b, c)), Merge(Merge(a, b), c)) {
			t.Fatalf("%v, %v and %v", a, b, c)
		}
		if !slices.Equal(Merge(a, a), a) {
			t.Fatalf("%v", a)
		}
	}
}

func TestGet(t *testing.T) { // P12.2
	for _, l := range append(rights(), wrongs()...) {
		for at, i := range l {
			first := slices.IndexFunc(l, func(x api.Instance) bool { return x.Publisher == i.Publisher })
			if got, ok := Get(l, i.Publisher); !ok || got != l[first] {
				t.Fatalf("%d of %d: %v %v", at, len(l), got, ok)
			}
		}
		if got, ok := Get(l, api.ID{5: 5}); ok || got != (api.Instance{}) {
			t.Errorf("%.300v: %v", l, got)
		}
	}
	if got, ok := Get([]api.Instance{{}, one(0, 3)}, api.ID{}); !ok || got != (api.Instance{}) {
		t.Error(got, ok)
	}
	if got, ok := Get([]api.Instance{one(2, 3), one(2, 4)}, api.ID{19: 2}); !ok || got != one(2, 3) {
		t.Error(got, ok)
	}
	if got, ok := Get(ones(1, 2)[:1], api.ID{19: 2}); ok || got != (api.Instance{}) {
		t.Error("what lies beyond the length is read", got)
	}
}

func TestLiveAndSweep(t *testing.T) { // P12.3
	all := []api.Instance{one(9, 1), inst.Stone(one(8, 1)), living(7, 1), {}, living(7, 2), inst.Stone(living(6, 2)), {Born: last, Life: 5}, {Born: last - 1, Life: 5, Gone: true}, {Born: last - 1, Life: 5}}
	for _, l := range append(append(rights(), wrongs()...), all) {
		for _, now := range ticks() {
			var live, swept []api.Instance
			for _, i := range l {
				end := i.Born + uint64(i.Life)
				if end < i.Born {
					end = last
				}
				if i.Born <= now && now < end && !i.Gone {
					live = append(live, i)
				}
				if now < end {
					swept = append(swept, i)
				}
			}
			if got := Live(l, now); !slices.Equal(got, live) {
				t.Errorf("%.300v at %d: %v live", l, now, got)
			}
			if got := Sweep(l, now); !slices.Equal(got, swept) {
				t.Errorf("%.300v at %d: %v are not over", l, now, got)
			}
		}
	}
}

func TestLiveAndSweepAtEdges(t *testing.T) { // P12.3
	l := []api.Instance{living(1, 1), inst.Stone(living(2, 2)), living(3, 3)} // they end at 6, 7 and 8
	for _, c := range []struct {
		now         uint64
		live, swept []api.Instance
	}{
		{0, nil, l}, {4, nil, l}, {5, []api.Instance{l[0], l[2]}, l}, {6, l[2:], l[1:]}, {7, l[2:], l[2:]}, {8, nil, nil}, {last, nil, nil},
	} {
		if live, swept := Live(l, c.now), Sweep(l, c.now); !slices.Equal(live, c.live) || !slices.Equal(swept, c.swept) {
			t.Errorf("at %d: %v, %v", c.now, live, swept)
		}
	}
}

func TestSame(t *testing.T) { // P12.4
	lists := append(append(rights(), wrongs()...), ones(1), ones(1, 2, 3), ones(3, 2, 1))
	for at, a := range lists {
		for other, b := range lists {
			want := len(a) == len(b)
			for i := 0; want && i < len(a); i++ {
				want = a[i] == b[i]
			}
			if Same(a, b) != want {
				t.Errorf("%d and %d: %v", at, other, !want)
			}
		}
	}
	if !Same(nil, []api.Instance{}) || !Same([]api.Instance{}, nil) || !Same(nil, nil) || Same(nil, ones(1)) || Same(ones(1), nil) || Same(ones(1, 2), ones(1)) || Same(ones(1), ones(1, 2)) {
		t.Error("no instances")
	}
	for _, change := range []func(i *api.Instance){
		func(i *api.Instance) { i.Publisher[0]++ }, func(i *api.Instance) { i.Seq++ }, func(i *api.Instance) { i.Born++ }, func(i *api.Instance) { i.Life++ }, func(i *api.Instance) { i.Gone = true },
		func(i *api.Instance) { i.Priority++ }, func(i *api.Instance) { i.Weight++ }, func(i *api.Instance) { i.Port++ }, func(i *api.Instance) { i.Target += "a" },
	} {
		a, b := ones(1, 2, 3), ones(1, 2, 3)
		if !Same(a, b) {
			t.Error(a, b)
		}
		change(&b[2])
		if Same(a, b) || Same(b, a) {
			t.Error(a, b)
		}
	}
}
