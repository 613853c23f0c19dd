package inst

import (
	"math/big"
	"math/rand"
	"strings"
	"testing"

	"signpost/api"
)

const last = 1<<64 - 1

// one is a good instance that is served.
func one() api.Instance {
	return api.Instance{Publisher: api.ID{0: 1, 19: 20}, Seq: 7, Born: 5, Life: 3, Priority: 1, Weight: 2, Port: 80, Target: "a.b"}
}

// stone is a good instance that is gone.
func stone() api.Instance {
	return api.Instance{Publisher: api.ID{0: 1, 19: 20}, Seq: 8, Born: 5, Life: 3, Gone: true}
}

// with is one with a change.
func with(change func(i *api.Instance)) api.Instance {
	i := one()
	change(&i)
	return i
}

// gone is stone with a change.
func gone(change func(i *api.Instance)) api.Instance {
	i := stone()
	change(&i)
	return i
}

// longName has a name of small letters whose text has 253 bytes, the most that a name may have.
func longName() string {
	long := strings.Repeat("a", 63)
	return long + "." + long + "." + long + "." + strings.Repeat("z", 61)
}

func greatestID() api.ID {
	var id api.ID
	for i := range id {
		id[i] = 255
	}
	return id
}

// right are good instances, the edges among them.
func right() []api.Instance {
	l := []api.Instance{
		one(), stone(), {Life: 1, Port: 1, Target: "a"}, {Life: 1, Gone: true}, {Life: api.MaxLife, Gone: true},
		{Publisher: greatestID(), Seq: last, Born: last, Life: api.MaxLife, Priority: 65535, Weight: 65535, Port: 65535, Target: longName()},
		{Publisher: greatestID(), Seq: last, Born: last, Life: api.MaxLife, Gone: true},
	}
	for _, target := range []string{"a", "z", "0", "9", "_", "_http._tcp.example", "a-b.c--d", "127.0.0.1", strings.Repeat("x", 63), longName()} {
		l = append(l, with(func(i *api.Instance) { i.Target = target }))
	}
	for _, life := range []uint32{1, 2, 255, 256, 1 << 30, api.MaxLife - 1, api.MaxLife} {
		l = append(l, with(func(i *api.Instance) { i.Life = life }), gone(func(i *api.Instance) { i.Life = life }))
	}
	for _, port := range []uint16{1, 2, 255, 256, 65535} {
		l = append(l, with(func(i *api.Instance) { i.Port = port }))
	}
	for _, n := range []uint64{0, 1, 255, 256, 1 << 32, 1 << 63, last - 1, last} {
		l = append(l, with(func(i *api.Instance) { i.Seq = n }), with(func(i *api.Instance) { i.Born = n }), gone(func(i *api.Instance) { i.Seq, i.Born = n, last-n }))
	}
	r := rand.New(rand.NewSource(11))
	for range 100 {
		l = append(l, random(r))
	}
	return l
}

// random has a good instance.
func random(r *rand.Rand) api.Instance {
	i := api.Instance{Seq: r.Uint64(), Born: r.Uint64(), Life: 1 + uint32(r.Intn(api.MaxLife)), Gone: r.Intn(3) == 0}
	r.Read(i.Publisher[:])
	if i.Gone {
		return i
	}
	i.Priority, i.Weight, i.Port = uint16(r.Uint32()), uint16(r.Uint32()), uint16(1+r.Intn(65535))
	for range 1 + r.Intn(4) {
		i.Target += "." + strings.Repeat(string("ab_9"[r.Intn(4)]), 1+r.Intn(9))
	}
	i.Target = i.Target[1:]
	return i
}

// wrong are instances that are not good, each for one reason, and some for several.
func wrong() []api.Instance {
	l := []api.Instance{
		{}, {Gone: true}, {Life: 1}, {Life: 1, Port: 1}, {Life: 1, Target: "a"}, {Port: 1, Target: "a"}, {Life: 1, Port: 1, Target: "A"}, {Publisher: greatestID(), Seq: last, Born: last},
		with(func(i *api.Instance) { i.Gone = true }), with(func(i *api.Instance) { i.Port = 0 }), gone(func(i *api.Instance) { i.Gone = false }),
		gone(func(i *api.Instance) { i.Priority = 1 }), gone(func(i *api.Instance) { i.Weight = 1 }), gone(func(i *api.Instance) { i.Port = 1 }),
		gone(func(i *api.Instance) { i.Priority = 65535 }), gone(func(i *api.Instance) { i.Weight = 65535 }), gone(func(i *api.Instance) { i.Port = 65535 }),
		gone(func(i *api.Instance) { i.Target = "a" }), gone(func(i *api.Instance) { i.Target = "." }), gone(func(i *api.Instance) { i.Port, i.Target = 80, "a.b" }),
	}
	for _, life := range []uint32{0, api.MaxLife + 1, api.MaxLife + 2, 1<<32 - 1} {
		l = append(l, with(func(i *api.Instance) { i.Life = life }), gone(func(i *api.Instance) { i.Life = life }))
	}
	for _, target := range []string{
		"", ".", "a.", ".a", "a..b", "a b", "-a", "a-", "a.-b", "*.a", "a\x00", "\x00", "\xe4", "ä", "\u0430", "a\xff", "A", "Z", "aB", "a.B", "B.a", "a.b.c.Dd", "a.b-C",
		strings.Repeat("a", 64), longName() + "z", longName() + ".", longName() + ".z", longName()[:252] + "Z", strings.Repeat("a.", 5000) + "a", strings.Repeat("a", 70000), strings.Repeat("A", 100),
	} {
		l = append(l, with(func(i *api.Instance) { i.Target = target }))
	}
	return l
}

// all are instances that are good, and others.
func all() []api.Instance { return append(right(), wrong()...) }

func TestGood(t *testing.T) { // P11.1
	for _, i := range right() {
		if !Good(i) {
			t.Errorf("%v is good", i)
		}
	}
	for _, i := range wrong() {
		if Good(i) {
			t.Errorf("%.300v is not good", i)
		}
	}
}

// plainEnd is the definition, in exact numbers.
func plainEnd(i api.Instance) *big.Int {
	most := new(big.Int).SetUint64(last)
	end := new(big.Int).Add(new(big.Int).SetUint64(i.Born), new(big.Int).SetUint64(uint64(i.Life)))
	if end.Cmp(most) > 0 {
		return most
	}
	return end
}

// ticks are the edges of an instance's life, and others.
func ticks(i api.Instance) []uint64 {
	l := []uint64{0, 1, 1 << 31, 1 << 32, 1 << 63, last - 1, last}
	for _, edge := range []uint64{i.Born, i.Born + uint64(i.Life), i.Born + uint64(i.Life)/2, last - uint64(i.Life)} {
		l = append(l, edge-1, edge, edge+1)
	}
	return l
}

// manyLives are instances whose ends are at, and near, the greatest tick, too.
func manyLives() []api.Instance {
	l := all()
	for _, life := range []uint32{0, 1, 2, 3, api.MaxLife, api.MaxLife + 1, 1<<32 - 1} {
		for _, born := range []uint64{0, 1, 5, 1<<32 - 1, 1 << 63, last - 1<<32, last - uint64(life) - 1, last - uint64(life), last - uint64(life) + 1, last - 2, last - 1, last} {
			l = append(l, api.Instance{Born: born, Life: life}, api.Instance{Born: born, Life: life, Gone: true, Seq: 9, Port: 1})
		}
	}
	return l
}

func TestEnd(t *testing.T) { // P11.2
	for _, i := range manyLives() {
		if got := End(i); new(big.Int).SetUint64(got).Cmp(plainEnd(i)) != 0 {
			t.Errorf("born %d, life %d: %d", i.Born, i.Life, got)
		}
	}
	for _, c := range []struct {
		born uint64
		life uint32
		want uint64
	}{{0, 0, 0}, {5, 3, 8}, {0, api.MaxLife, api.MaxLife}, {last - 3, 2, last - 1}, {last - 3, 3, last}, {last - 3, 4, last}, {last, 0, last}, {last, 1, last}, {last, 1<<32 - 1, last}, {1 << 32, 1<<32 - 1, 1<<33 - 1}} {
		if got := End(api.Instance{Born: c.born, Life: c.life}); got != c.want {
			t.Errorf("born %d, life %d: %d", c.born, c.life, got)
		}
	}
}

func TestLife(t *testing.T) { // P11.2, P11.5
	for _, i := range manyLives() {
		end := plainEnd(i)
		for _, now := range ticks(i) {
			at := new(big.Int).SetUint64(now)
			alive := now >= i.Born && at.Cmp(end) < 0
			over := at.Cmp(end) >= 0
			left := new(big.Int)
			if alive {
				left.Sub(end, at)
			}
			if Alive(i, now) != alive || Over(i, now) != over || left.Cmp(big.NewInt(int64(Left(i, now)))) != 0 {
				t.Errorf("born %d, life %d, at %d: %v %v %d", i.Born, i.Life, now, Alive(i, now), Over(i, now), Left(i, now))
			}
			if Left(i, now) > i.Life || Over(i, now) && Alive(i, now) {
				t.Errorf("born %d, life %d, at %d", i.Born, i.Life, now)
			}
		}
	}
}

func TestLifeOfTheExample(t *testing.T) { // P11.2, P11.5
	i := one()
	for now := range uint64(20) {
		alive := 5 <= now && now <= 7
		var left uint32
		if alive {
			left = uint32(8 - now)
		}
		if Alive(i, now) != alive || Over(i, now) != (now >= 8) || Left(i, now) != left {
			t.Errorf("at %d: %v %v %d", now, Alive(i, now), Over(i, now), Left(i, now))
		}
	}
	if Left(i, 6) != 2 {
		t.Error(Left(i, 6))
	}
	// One that is gone lives as long.
	if i = stone(); !Alive(i, 5) || Alive(i, 8) || Left(i, 5) != 3 || Over(i, 7) || !Over(i, 8) {
		t.Error("a stone")
	}
}

// plainCmp is the promise, word by word.
func plainCmp(a, b api.Instance) int {
	order := func(less, greater bool) int {
		if less {
			return -1
		}
		if greater {
			return 1
		}
		return 0
	}
	for _, c := range []int{
		order(a.Seq < b.Seq, a.Seq > b.Seq),
		order(!a.Gone && b.Gone, a.Gone && !b.Gone),
		order(a.Born < b.Born, a.Born > b.Born),
		order(a.Life < b.Life, a.Life > b.Life),
		order(string(a.Publisher[:]) < string(b.Publisher[:]), string(a.Publisher[:]) > string(b.Publisher[:])),
		order(a.Priority < b.Priority, a.Priority > b.Priority),
		order(a.Weight < b.Weight, a.Weight > b.Weight),
		order(a.Port < b.Port, a.Port > b.Port),
		order(a.Target < b.Target, a.Target > b.Target),
	} {
		if c != 0 {
			return c
		}
	}
	return 0
}

// rises has for each field, the one that decides first ahead, what makes an instance newer by it.
func rises() []func(i *api.Instance) {
	return []func(i *api.Instance){
		func(i *api.Instance) { i.Seq++ },
		func(i *api.Instance) { i.Gone = true },
		func(i *api.Instance) { i.Born++ },
		func(i *api.Instance) { i.Life++ },
		func(i *api.Instance) { i.Publisher[19]++ },
		func(i *api.Instance) { i.Priority++ },
		func(i *api.Instance) { i.Weight++ },
		func(i *api.Instance) { i.Port++ },
		func(i *api.Instance) { i.Target += "a" },
	}
}

func TestCmpOfEachField(t *testing.T) { // P11.3
	rises := rises()
	for first := range rises {
		a, b := one(), one()
		rises[first](&b)
		if Cmp(a, b) != -1 || Cmp(b, a) != 1 {
			t.Errorf("field %d: %d %d", first, Cmp(a, b), Cmp(b, a))
		}
		// What comes behind it does not count.
		for _, rise := range rises[first+1:] {
			rise(&a)
		}
		if Cmp(a, b) != -1 || Cmp(b, a) != 1 {
			t.Errorf("field %d against those behind it: %d %d", first, Cmp(a, b), Cmp(b, a))
		}
	}
}

func TestCmpOfEdges(t *testing.T) { // P11.3
	for _, c := range [][2]api.Instance{
		{{Seq: 1<<63 - 1}, {Seq: 1 << 63}}, {{Seq: 0}, {Seq: last}}, {{Born: 1<<63 - 1}, {Born: 1 << 63}}, {{Born: 0}, {Born: last}},
		{{Life: 1<<31 - 1}, {Life: 1 << 31}}, {{Life: 0}, {Life: 1<<32 - 1}}, {{Priority: 1<<15 - 1}, {Priority: 1 << 15}}, {{Priority: 0}, {Priority: 65535}},
		{{Weight: 1<<15 - 1}, {Weight: 1 << 15}}, {{Weight: 0}, {Weight: 65535}}, {{Port: 1<<15 - 1}, {Port: 1 << 15}}, {{Port: 0}, {Port: 65535}},
		{{Publisher: api.ID{0: 127}}, {Publisher: api.ID{0: 128}}}, {{Publisher: api.ID{19: 255}}, {Publisher: api.ID{0: 1}}}, {{Publisher: api.ID{1, 2, 2, 9}}, {Publisher: api.ID{1, 2, 3}}},
		{{}, {Target: "a"}}, {{Target: "a"}, {Target: "aa"}}, {{Target: "B"}, {Target: "a"}}, {{Target: "a"}, {Target: "\x80"}}, {{Target: "\xc3\xa4"}, {Target: "\xff"}}, {{Target: "aa"}, {Target: "b"}}, {{Target: "a"}, {Target: "a\x00"}},
		{{Target: "\xff"}, {Gone: true}}, {{Seq: 1, Gone: true}, {Seq: 2}},
	} {
		if Cmp(c[0], c[1]) != -1 || Cmp(c[1], c[0]) != 1 {
			t.Errorf("%v and %v: %d %d", c[0], c[1], Cmp(c[0], c[1]), Cmp(c[1], c[0]))
		}
	}
}

// alike are instances that differ in few fields, so that each field decides now and then.
func alike(r *rand.Rand) api.Instance {
	few := func() uint64 { return uint64(r.Intn(5)) / 4 }
	i := api.Instance{Seq: few(), Gone: few() == 1, Born: few(), Life: uint32(few()), Priority: uint16(few()), Weight: uint16(few()), Port: uint16(few()), Target: "ab"[:1+few()]}
	i.Publisher[r.Intn(2)*19] = byte(few())
	return i
}

func TestCmp(t *testing.T) { // P11.3, P11.6
	l := all()
	r := rand.New(rand.NewSource(113))
	for range 250 {
		l = append(l, alike(r))
	}
	for _, a := range l {
		for _, b := range l {
			if got := Cmp(a, b); got != plainCmp(a, b) || got != -Cmp(b, a) || (got == 0) != (a == b) {
				t.Fatalf("%v and %v: %d", a, b, got)
			}
		}
	}
}

func TestCmpPassesOn(t *testing.T) { // P11.6
	r := rand.New(rand.NewSource(116))
	chains := 0
	for range 100000 {
		a, b, c := alike(r), alike(r), alike(r)
		if Cmp(a, b) <= 0 && Cmp(b, c) <= 0 {
			chains++
			if Cmp(a, c) > 0 {
				t.Fatal(a, b, c)
			}
		}
	}
	if chains < 1000 {
		t.Error("too few:", chains)
	}
}

func TestStone(t *testing.T) { // P11.3, P11.6
	for _, i := range all() {
		want := api.Instance{Publisher: i.Publisher, Seq: i.Seq, Born: i.Born, Life: i.Life, Gone: true}
		if i.Seq != last {
			want.Seq++
		}
		got := Stone(i)
		if got != want || End(got) != End(i) {
			t.Errorf("%.300v: %v", i, got)
		}
		if Good(i) && (!Good(got) || Cmp(got, i) != 1 && i.Seq != last) {
			t.Errorf("%v: %v", i, got)
		}
	}
	if Stone(one()) != stone() {
		t.Error(Stone(one()))
	}
	for _, c := range [][2]uint64{{0, 1}, {1<<63 - 1, 1 << 63}, {last - 1, last}, {last, last}} {
		if got := Stone(api.Instance{Seq: c[0]}); got.Seq != c[1] {
			t.Errorf("%d: %d", c[0], got.Seq)
		}
	}
}
