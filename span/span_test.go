package span

import (
	"bytes"
	"math"
	"math/big"
	"math/rand"
	"slices"
	"testing"

	"signpost/api"
	"signpost/ident"
)

func small(n byte) api.ID { return api.ID{api.IDLen - 1: n} }

func greatest() api.ID {
	var id api.ID
	for i := range id {
		id[i] = 255
	}
	return id
}

func number(id api.ID) *big.Int { return new(big.Int).SetBytes(id[:]) }

func idOf(n *big.Int) api.ID {
	var id api.ID
	n.FillBytes(id[:])
	return id
}

func power(n int) *big.Int { return new(big.Int).Lsh(big.NewInt(1), uint(n)) }

func distance(a, b api.ID) *big.Int { return new(big.Int).Xor(number(a), number(b)) }

// owners has the edges, and ids of all kinds that share prefixes.
func owners() []api.ID {
	l := []api.ID{{}, greatest(), small(1), small(254), {0x80}, {0x7f, 255}, {0xaa, 0x55}, ident.Of("owner")}
	r := rand.New(rand.NewSource(5))
	for range 6 {
		var id api.ID
		r.Read(id[:])
		shared := id
		r.Read(shared[r.Intn(api.IDLen):])
		l = append(l, id, shared)
	}
	return l
}

// noBuckets are numbers of no bucket.
func noBuckets() []int {
	return []int{-1, 160, -160, -8, 161, 168, 256, 320, 1 << 32, math.MinInt, math.MaxInt}
}

// seeds are empty, short, of 20 bytes, and longer.
func seeds() [][]byte {
	all := []byte("0123456789abcdefghij and more")
	ones := bytes.Repeat([]byte{255}, 40)
	return [][]byte{
		nil, {}, {0}, {1}, {255}, {0x80}, all[:1], all[:2], all[:19], all[:20], all[:21], all,
		ones[:1], ones[:10], ones[:19], ones[:20], ones[:21], ones, make([]byte, 20), make([]byte, 30),
	}
}

// bounds are the promise as numbers: the ids of bucket i are one block of 2^(159-i).
func bounds(owner api.ID, i int) (low, high *big.Int) {
	size := power(159 - i)
	block := new(big.Int).Rsh(number(owner), uint(159-i))
	block.Xor(block, big.NewInt(1))
	low = new(big.Int).Mul(block, size)
	high = new(big.Int).Add(low, size)
	return low, high.Sub(high, big.NewInt(1))
}

// eachBucket calls f for every bucket of many owners.
func eachBucket(f func(owner api.ID, i int)) {
	for _, owner := range owners() {
		for i := range 160 {
			f(owner, i)
		}
	}
}

func TestIndex(t *testing.T) { // P5.1
	for _, owner := range owners() {
		for _, id := range owners() {
			want, differ := 160-distance(owner, id).BitLen(), owner != id
			if !differ {
				want = 0
			}
			if i, ok := Index(owner, id); i != want || ok != differ {
				t.Errorf("%x of %x: %d %v, want %d %v", id, owner, i, ok, want, differ)
			}
		}
	}
	eachBucket(func(owner api.ID, want int) {
		id := idOf(new(big.Int).Xor(number(owner), power(159-want)))
		if i, ok := Index(owner, id); i != want || !ok {
			t.Errorf("%x of %x: %d %v, want %d", id, owner, i, ok, want)
		}
	})
}

func TestIndexEdges(t *testing.T) { // P5.1
	for _, c := range []struct {
		owner, id api.ID
		i         int
		ok        bool
	}{
		{api.ID{}, api.ID{}, 0, false}, {greatest(), greatest(), 0, false}, {small(7), small(7), 0, false},
		{api.ID{}, api.ID{0x80}, 0, true}, {api.ID{}, greatest(), 0, true}, {greatest(), api.ID{}, 0, true},
		{api.ID{}, small(1), 159, true}, {small(1), api.ID{}, 159, true}, {api.ID{}, small(2), 158, true}, {api.ID{}, small(3), 158, true},
		{api.ID{0x80}, api.ID{0xc0}, 1, true}, {api.ID{1}, api.ID{1, 0x80}, 8, true},
	} {
		if i, ok := Index(c.owner, c.id); i != c.i || ok != c.ok {
			t.Errorf("%x of %x: %d %v, want %d %v", c.id, c.owner, i, ok, c.i, c.ok)
		}
	}
}

func TestHas(t *testing.T) { // P5.1
	for _, owner := range owners() {
		for _, id := range owners() {
			prefix := 160 - distance(owner, id).BitLen()
			for i := range 160 {
				if got := Has(owner, i, id); got != (i == prefix) {
					t.Errorf("bucket %d of %x and %x: %v", i, owner, id, got)
				}
			}
			for _, i := range noBuckets() {
				if Has(owner, i, id) {
					t.Errorf("bucket %d of %x has %x", i, owner, id)
				}
			}
		}
	}
	for _, owner := range owners() {
		if Has(owner, 0, owner) || Has(owner, 159, owner) || Has(owner, 160, owner) {
			t.Errorf("a bucket is for the owner %x", owner)
		}
	}
}

func TestLowAndHigh(t *testing.T) { // P5.2
	eachBucket(func(owner api.ID, i int) {
		wantLow, wantHigh := bounds(owner, i)
		if got, ok := Low(owner, i); number(got).Cmp(wantLow) != 0 || !ok {
			t.Errorf("bucket %d of %x: %x %v", i, owner, got, ok)
		}
		if got, ok := High(owner, i); number(got).Cmp(wantHigh) != 0 || !ok {
			t.Errorf("bucket %d of %x: %x %v", i, owner, got, ok)
		}
	})
}

// isJustIn tells whether bucket i is for the id, but not for its neighbour.
func isJustIn(owner api.ID, i int, id api.ID, neighbour *big.Int) bool {
	outside := neighbour.Sign() < 0 || neighbour.BitLen() > 160 || !Has(owner, i, idOf(neighbour))
	return Has(owner, i, id) && outside
}

func TestNothingBeyondLowAndHigh(t *testing.T) { // P5.2
	one := big.NewInt(1)
	eachBucket(func(owner api.ID, i int) {
		low, _ := Low(owner, i)
		high, _ := High(owner, i)
		if !isJustIn(owner, i, low, new(big.Int).Sub(number(low), one)) {
			t.Errorf("bucket %d of %x: low %x", i, owner, low)
		}
		if !isJustIn(owner, i, high, new(big.Int).Add(number(high), one)) {
			t.Errorf("bucket %d of %x: high %x", i, owner, high)
		}
	})
}

func TestLowAndHighEdges(t *testing.T) { // P5.2
	mostly := greatest()
	mostly[0] = 0x7f
	for _, c := range []struct {
		owner     api.ID
		i         int
		low, high api.ID
	}{
		{api.ID{}, 0, api.ID{0x80}, greatest()},
		{api.ID{}, 159, small(1), small(1)},
		{greatest(), 0, api.ID{}, mostly},
		{small(1), 159, api.ID{}, api.ID{}},
		{api.ID{}, 158, small(2), small(3)},
		{small(5), 157, small(0), small(3)},
	} {
		low, okLow := Low(c.owner, c.i)
		high, okHigh := High(c.owner, c.i)
		if low != c.low || high != c.high || !okLow || !okHigh {
			t.Errorf("bucket %d of %x: %x %v to %x %v", c.i, c.owner, low, okLow, high, okHigh)
		}
	}
}

func TestNoSuchBucket(t *testing.T) { // P5.2, P5.3
	for _, owner := range owners() {
		for _, i := range noBuckets() {
			if id, ok := Low(owner, i); id != (api.ID{}) || ok {
				t.Errorf("low of bucket %d: %x %v", i, id, ok)
			}
			if id, ok := High(owner, i); id != (api.ID{}) || ok {
				t.Errorf("high of bucket %d: %x %v", i, id, ok)
			}
			for _, seed := range seeds() {
				if id, ok := Draw(owner, i, seed); id != (api.ID{}) || ok {
					t.Errorf("drawn of bucket %d: %x %v", i, id, ok)
				}
			}
		}
	}
}

func TestDraw(t *testing.T) { // P5.3
	for _, seed := range seeds() {
		var padded [api.IDLen]byte
		copy(padded[:], seed)
		chosen := new(big.Int).SetBytes(padded[:])
		eachBucket(func(owner api.ID, i int) {
			low, _ := bounds(owner, i)
			want := idOf(low.Add(low, new(big.Int).Mod(chosen, power(159-i))))
			if got, ok := Draw(owner, i, seed); got != want || !ok {
				t.Errorf("bucket %d of %x by %x: %x %v, want %x", i, owner, seed, got, ok, want)
			}
		})
	}
}

func TestDrawEdges(t *testing.T) { // P5.3
	ones := bytes.Repeat([]byte{255}, 30)
	for _, c := range []struct {
		owner api.ID
		i     int
		seed  []byte
		want  api.ID
	}{
		{api.ID{0x80}, 4, []byte{0xff, 7}, api.ID{0x8f, 7}},
		{api.ID{}, 0, nil, api.ID{0x80}},
		{api.ID{}, 0, ones, greatest()},
		{api.ID{}, 159, ones, small(1)},
		{small(1), 159, ones, api.ID{}},
		{greatest(), 0, nil, api.ID{}},
		{api.ID{}, 0, append(make([]byte, 20), 255), api.ID{0x80}},
		{api.ID{}, 0, append(make([]byte, 19), 255), api.ID{0: 0x80, 19: 255}},
		{api.ID{}, 152, append(make([]byte, 19), 255), small(255)},
		{api.ID{}, 0, ones[:1], api.ID{0xff}},
	} {
		if got, ok := Draw(c.owner, c.i, c.seed); got != c.want || !ok {
			t.Errorf("bucket %d of %x by %x: %x %v, want %x", c.i, c.owner, c.seed, got, ok, c.want)
		}
	}
}

func TestDrawLeavesTheSeed(t *testing.T) { // the rules
	room := bytes.Repeat([]byte{0xee}, 40)
	kept := slices.Clone(room)
	for _, n := range []int{0, 3, 20, 25} {
		short, _ := Draw(api.ID{}, 0, room[:n])
		exact, _ := Draw(api.ID{}, 0, slices.Clone(room[:n]))
		if short != exact {
			t.Errorf("%d bytes: what lies behind the seed counts: %x", n, short)
		}
	}
	if !bytes.Equal(room, kept) {
		t.Errorf("the seed or its spare room has changed: %x", room)
	}
}

func TestNearer(t *testing.T) { // P5.4
	for _, owner := range owners() {
		for _, to := range owners() {
			var want []int
			for i := range 160 {
				if number(owner).Bit(159-i) != number(to).Bit(159-i) {
					want = append(want, i)
				}
			}
			if got := Nearer(owner, to); !slices.Equal(got, want) {
				t.Errorf("%x to %x: %v, want %v", owner, to, got, want)
			}
		}
	}
	for _, c := range []struct {
		owner, t api.ID
		want     []int
	}{
		{api.ID{}, api.ID{}, nil}, {greatest(), greatest(), nil},
		{api.ID{}, api.ID{0x80}, []int{0}}, {small(1), api.ID{}, []int{159}},
		{api.ID{0x80}, api.ID{0: 0xa0, 19: 1}, []int{2, 159}}, {api.ID{0x81}, small(3), []int{0, 7, 158, 159}},
	} {
		if got := Nearer(c.owner, c.t); !slices.Equal(got, c.want) {
			t.Errorf("%x to %x: %v, want %v", c.owner, c.t, got, c.want)
		}
	}
	if got := Nearer(api.ID{}, greatest()); len(got) != 160 || got[0] != 0 || got[159] != 159 {
		t.Errorf("all bits differ: %v", got)
	}
}

func TestAnswersShareNothing(t *testing.T) { // the rules
	first := Nearer(api.ID{}, small(3))
	first[0] = 77
	if again := Nearer(api.ID{}, small(3)); !slices.Equal(again, []int{158, 159}) {
		t.Errorf("%v", again)
	}
}

func TestDrawnIds(t *testing.T) { // P5.5
	for _, seed := range seeds() {
		eachBucket(func(owner api.ID, i int) {
			id, ok := Draw(owner, i, seed)
			low, _ := Low(owner, i)
			high, _ := High(owner, i)
			if !ok || !Has(owner, i, id) || number(id).Cmp(number(low)) < 0 || number(id).Cmp(number(high)) > 0 {
				t.Errorf("bucket %d of %x by %x: %x", i, owner, seed, id)
			}
		})
	}
}

func TestEachIdIsDrawn(t *testing.T) { // P5.5
	check := func(owner, id api.ID) {
		i, ok := Index(owner, id)
		if !ok {
			return
		}
		if got, ok := Draw(owner, i, id[:]); got != id || !ok {
			t.Errorf("bucket %d of %x: %x by itself is %x", i, owner, id, got)
		}
	}
	for _, owner := range owners() {
		for _, id := range owners() {
			check(owner, id)
		}
	}
	eachBucket(func(owner api.ID, i int) {
		low, _ := Low(owner, i)
		high, _ := High(owner, i)
		check(owner, low)
		check(owner, high)
	})
}

// reach tells the least and the greatest distance from t of the ids of bucket i: of its ends, and of its ids most like t and most unlike it.
func reach(owner, t api.ID, i int) (least, most *big.Int) {
	low, _ := Low(owner, i)
	high, _ := High(owner, i)
	unlike := ident.Xor(t, greatest())
	nearest, _ := Draw(owner, i, t[:])
	farthest, _ := Draw(owner, i, unlike[:])
	var l []*big.Int
	for _, id := range []api.ID{low, high, nearest, farthest} {
		l = append(l, distance(t, id))
	}
	return slices.MinFunc(l, (*big.Int).Cmp), slices.MaxFunc(l, (*big.Int).Cmp)
}

func TestOrder(t *testing.T) { // P5.4, P5.6
	for _, owner := range owners() {
		for _, to := range owners() {
			own := distance(owner, to)
			before := big.NewInt(-1)
			nearer := Nearer(owner, to)
			for i := range 160 {
				least, most := reach(owner, to, i)
				if !slices.Contains(nearer, i) {
					if least.Cmp(own) < 0 {
						t.Fatalf("%x to %x: bucket %d has nearer ids and is missing", owner, to, i)
					}
					continue
				}
				if least.Cmp(before) <= 0 || most.Cmp(own) >= 0 {
					t.Fatalf("%x to %x: bucket %d", owner, to, i)
				}
				before = most
			}
		}
	}
}
