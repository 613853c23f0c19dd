package clock

import (
	"math"
	"math/big"
	"math/rand"
	"slices"
	"testing"
)

// edges are ticks at which something might go round.
func edges() []uint64 {
	return []uint64{0, 1, 2, 3, 5, 8, 9, 1<<31 - 1, 1 << 32, 1<<63 - 1, 1 << 63, 1<<63 + 1, math.MaxUint64 - 3, math.MaxUint64 - 2, math.MaxUint64 - 1, math.MaxUint64}
}

func whole(n uint64) *big.Int { return new(big.Int).SetUint64(n) }

// capped is a number as a tick, at most the last one and at least 0.
func capped(n *big.Int) uint64 {
	if n.Sign() < 0 {
		return 0
	}
	if !n.IsUint64() {
		return math.MaxUint64
	}
	return n.Uint64()
}

// plainEvery is the least tick of the row that is later than now, reckoned in numbers that have no end.
func plainEvery(from, step, now uint64) uint64 {
	if step == 0 {
		return math.MaxUint64
	}
	k := new(big.Int).Sub(whole(now), whole(from))
	k.Div(k, whole(step)) // Div rounds down, below 0 too
	k.Add(k, big.NewInt(1))
	if k.Sign() < 1 {
		k.SetInt64(1)
	}
	return capped(k.Mul(k, whole(step)).Add(k, whole(from)))
}

// near draws numbers of all lengths, many of them close to one another.
func near(r *rand.Rand) uint64 {
	switch r.Intn(4) {
	case 0:
		return uint64(r.Intn(20))
	case 1:
		return math.MaxUint64 - uint64(r.Intn(20))
	case 2:
		return edges()[r.Intn(len(edges()))]
	}
	return r.Uint64() >> r.Intn(64)
}

func TestLast(t *testing.T) { // P13.1
	var last uint64 = Last
	if last != math.MaxUint64 || last+1 != 0 {
		t.Error(last)
	}
}

func TestAddAndSub(t *testing.T) { // P13.1
	for _, a := range edges() {
		for _, b := range edges() {
			if n := Add(a, b); n != capped(new(big.Int).Add(whole(a), whole(b))) {
				t.Error("sum", a, b, n)
			}
			if n := Sub(a, b); n != capped(new(big.Int).Sub(whole(a), whole(b))) {
				t.Error("difference", a, b, n)
			}
		}
	}
	for _, x := range [][4]uint64{{2, 3, 5, 0}, {3, 2, 5, 1}, {7, 7, 14, 0}, {Last, 1, Last, Last - 1}, {1, Last, Last, 0}, {Last - 1, 1, Last, Last - 2}, {Last - 1, 2, Last, Last - 3}, {Last, Last, Last, 0}} {
		if s, d := Add(x[0], x[1]), Sub(x[0], x[1]); s != x[2] || d != x[3] {
			t.Error(x, s, d)
		}
	}
}

func TestDue(t *testing.T) { // P13.1
	for _, at := range edges() {
		for _, now := range edges() {
			want := at <= now
			if at == math.MaxUint64 {
				want = false
			}
			if Due(at, now) != want {
				t.Error(at, now, !want)
			}
		}
	}
	if Due(5, 4) || !Due(5, 5) || !Due(5, 6) || !Due(0, 0) || Due(Last, Last) || !Due(Last-1, Last-1) || !Due(Last-1, Last) {
		t.Error("due")
	}
}

func TestFirst(t *testing.T) { // P13.1
	if n := First(); n != Last {
		t.Error("none:", n)
	}
	for _, l := range [][]uint64{{7}, {0}, {Last}, {3, 1, 2}, {1, 2, 3}, {3, 2, 1}, {4, 4}, {Last, Last}, {Last, 0}, {0, Last}, {1 << 63, 1<<63 - 1}, {Last, Last - 1}} {
		given := slices.Clone(l)
		if n := First(l...); n != slices.Min(given) {
			t.Error(given, n)
		}
		if !slices.Equal(l, given) {
			t.Error("changed", given, l)
		}
	}
	r := rand.New(rand.NewSource(131))
	for range 1000 {
		l := make([]uint64, 1+r.Intn(8))
		for i := range l {
			l[i] = near(r)
		}
		if n := First(l...); n != slices.Min(l) {
			t.Error(l, n)
		}
	}
}

func TestFirstReadsNoSpareRoom(t *testing.T) { // P13.1, rule 8
	l := []uint64{9, 8, 1}
	if n := First(l[:2]...); n != 8 || !slices.Equal(l, []uint64{9, 8, 1}) {
		t.Error(n, l)
	}
	if n := First(l[:0]...); n != Last {
		t.Error(n)
	}
}

func TestEvery(t *testing.T) { // P13.2
	for _, x := range [][4]uint64{
		{5, 3, 9, 11},
		{5, 3, 0, 8},
		{5, 3, 5, 8},
		{5, 3, 7, 8},
		{5, 3, 8, 11},
		{5, 3, 10, 11},
		{5, 3, 11, 14},
		{0, 1, 0, 1},
		{0, 1, 41, 42},
		{0, Last, 0, Last},
		{0, Last - 1, 0, Last - 1},
		{0, Last - 1, Last - 1, Last},
		{1, Last - 2, 0, Last - 1},
		{7, 1 << 63, 6, 1<<63 + 7},
		{7, 1 << 63, 1<<63 + 6, 1<<63 + 7},
		{7, 1 << 63, 1<<63 + 7, Last},
		{Last - 1, 1, 3, Last},
		{Last - 2, 1, 3, Last - 1},
		{Last - 2, 1, Last - 1, Last},
		{Last - 2, 5, 0, Last},
		{Last, 1, 0, Last},
		{Last, Last, Last, Last},
		{3, 2, Last, Last},
		{0, 2, Last - 1, Last},
		{0, 2, Last - 2, Last - 1},
		{0, 3, Last - 1, Last},
		{1, 3, Last - 3, Last - 2},
		{1, 3, Last - 2, Last},
	} {
		if n := Every(x[0], x[1], x[2]); n != x[3] {
			t.Error(x, n)
		}
	}
}

func TestEveryOfNoStep(t *testing.T) { // P13.2
	for _, from := range edges() {
		for _, now := range edges() {
			if n := Every(from, 0, now); n != Last {
				t.Error(from, now, n)
			}
		}
	}
}

func TestEveryOfSmallNumbers(t *testing.T) { // P13.2
	for from := range uint64(12) {
		for step := uint64(1); step < 8; step++ {
			for now := range uint64(30) {
				want := from + step
				for want <= now {
					want += step
				}
				if n := Every(from, step, now); n != want {
					t.Error(from, step, now, n)
				}
			}
		}
	}
}

func TestEveryOfGreatNumbers(t *testing.T) { // P13.2, P13.5
	check := func(from, step, now uint64) {
		n := Every(from, step, now)
		if n != plainEvery(from, step, now) {
			t.Error(from, step, now, n)
		}
		if n != Last && (n <= now || n > Add(max(now, from), step)) {
			t.Error("too early or too late", from, step, now, n)
		}
	}
	for _, from := range edges() {
		for _, step := range edges() {
			for _, now := range edges() {
				check(from, step, now)
			}
		}
	}
	r := rand.New(rand.NewSource(132))
	for range 20000 {
		check(near(r), near(r), near(r))
	}
}

func TestClock(t *testing.T) { // P13.3
	for _, at := range edges() {
		for _, n := range edges() {
			c := New(at)
			if c.Now() != at || c.Now() != at {
				t.Error("new", at, c.Now())
			}
			want := capped(new(big.Int).Add(whole(at), whole(n)))
			if got := c.Tick(n); got != want || c.Now() != want {
				t.Error(at, n, got, c.Now())
			}
		}
	}
	c := New(7)
	if c.Tick(5) != 12 || c.Tick(0) != 12 || c.Tick(1) != 13 || c.Now() != 13 {
		t.Error(c.Now())
	}
	if New(7).Now() != 7 {
		t.Error("two clocks show the same")
	}
}

func TestClone(t *testing.T) { // P13.3
	c := New(7)
	d := c.Clone()
	if d == c || d.Now() != 7 {
		t.Error("clone")
	}
	if c.Tick(5) != 12 || d.Now() != 7 {
		t.Error("the clone goes on", d.Now())
	}
	if d.Tick(1) != 8 || c.Now() != 12 {
		t.Error("goes on with the clone", c.Now())
	}
	if e := d.Clone(); e.Tick(2) != 10 || d.Now() != 8 {
		t.Error("a clone of a clone")
	}
	for _, at := range edges() {
		if n := New(at).Clone().Now(); n != at {
			t.Error(at, n)
		}
	}
}

func TestClockThatNewDidNotReturn(t *testing.T) { // P13.3, rule 1
	for _, c := range []*Clock{nil, {}, new(Clock)} {
		for _, n := range []uint64{0, 5, Last} {
			if c.Now() != 0 || c.Tick(n) != 0 || c.Now() != 0 {
				t.Error("it goes", n, c.Now())
			}
		}
		if c.Clone() != nil {
			t.Error("a clone")
		}
	}
}

func TestForward(t *testing.T) { // P13.4
	r := rand.New(rand.NewSource(134))
	for range 200 {
		c := New(near(r))
		for range 50 {
			was := c.Now()
			if now := c.Tick(near(r)); now < was || was == Last && now != Last {
				t.Fatal("back", was, now)
			}
		}
	}
	c := New(Last)
	for _, n := range edges() {
		if c.Tick(n) != Last || c.Now() != Last || c.Clone().Tick(n) != Last {
			t.Error("it does not stay", n)
		}
	}
}
