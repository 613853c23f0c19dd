package metric

import (
	"math"
	"math/big"
	"math/rand"
	"slices"
	"testing"

	"signpost/api"
	"signpost/ident"
)

func small(n byte) api.ID { return api.ID{api.IDLen - 1: n} }

func smalls(l ...byte) []api.ID {
	var out []api.ID
	for _, n := range l {
		out = append(out, small(n))
	}
	return out
}

func greatest() api.ID {
	var id api.ID
	for i := range id {
		id[i] = 255
	}
	return id
}

func distance(a, b api.ID) *big.Int {
	return new(big.Int).Xor(new(big.Int).SetBytes(a[:]), new(big.Int).SetBytes(b[:]))
}

// sample has the edges, single bits, and ids that share prefixes.
func sample() []api.ID {
	l := append(smalls(0, 1, 2, 3, 4, 255), greatest(), api.ID{0x80}, api.ID{0x7f, 255}, api.ID{1}, api.ID{18: 1})
	r := rand.New(rand.NewSource(4))
	for range 16 {
		var id api.ID
		r.Read(id[:])
		l = append(l, id)
		shared := l[r.Intn(len(l))]
		r.Read(shared[r.Intn(api.IDLen):])
		l = append(l, shared)
	}
	return l
}

// plainSort is the promise, word by word: it seeks the nearest of what is left.
func plainSort(t api.ID, l []api.ID) []api.ID {
	var out []api.ID
	left := slices.Clone(l)
	for len(left) > 0 {
		best := left[0]
		for _, id := range left {
			if distance(t, id).Cmp(distance(t, best)) < 0 {
				best = id
			}
		}
		out = append(out, best)
		left = slices.DeleteFunc(left, func(id api.ID) bool { return id == best })
	}
	return out
}

// lists are lists of all kinds: empty, with ids twice, in order and out of it, long.
func lists() [][]api.ID {
	l := [][]api.ID{nil, {}, smalls(0), smalls(5, 5), smalls(0, 1, 2, 1), smalls(3, 2, 1, 0), smalls(0, 1, 2, 3), {greatest(), {}, greatest()}, sample()}
	return append(l, append(sample(), sample()...))
}

func TestCmp(t *testing.T) { // P4.1
	l := sample()
	for _, to := range l {
		for _, a := range l {
			for _, b := range l {
				if got, want := Cmp(to, a, b), distance(to, a).Cmp(distance(to, b)); got != want {
					t.Fatalf("%x and %x about %x: %d, want %d", a, b, to, got, want)
				}
			}
		}
	}
	for _, c := range []struct {
		t, a, b byte
		want    int
	}{{0, 1, 2, -1}, {0, 2, 3, -1}, {0, 3, 1, 1}, {3, 2, 1, -1}, {3, 1, 0, -1}, {3, 0, 2, 1}, {3, 3, 2, -1}, {3, 1, 1, 0}, {0, 0, 0, 0}} {
		if got := Cmp(small(c.t), small(c.a), small(c.b)); got != c.want {
			t.Errorf("%v: %d", c, got)
		}
	}
}

func TestSort(t *testing.T) { // P4.1
	for _, l := range lists() {
		for _, to := range sample() {
			if got, want := Sort(to, l), plainSort(to, l); !slices.Equal(got, want) {
				t.Errorf("%x about %x: %x, want %x", l, to, got, want)
			}
		}
	}
	if got := Sort(small(3), smalls(0, 1, 2, 1)); !slices.Equal(got, smalls(2, 1, 0)) {
		t.Errorf("%x", got)
	}
	if got := Sort(small(3), smalls(0, 3, 3)); !slices.Equal(got, smalls(3, 0)) {
		t.Errorf("with the id itself: %x", got)
	}
}

func TestLeast(t *testing.T) { // P4.2
	for _, l := range lists() {
		for _, to := range []api.ID{{}, small(3), greatest(), ident.Of("t")} {
			all := plainSort(to, l)
			for _, n := range []int{math.MinInt, -1, 0, 1, 2, len(all) - 1, len(all), len(all) + 1, len(l), len(l) + 1, math.MaxInt} {
				want := all[:max(0, min(n, len(all)))]
				if got := Least(to, l, n); !slices.Equal(got, want) {
					t.Errorf("%d of %x about %x: %x, want %x", n, l, to, got, want)
				}
			}
		}
	}
	if got := Least(small(3), smalls(1, 1, 2, 2, 0), 2); !slices.Equal(got, smalls(2, 1)) {
		t.Errorf("an id that stands twice counts once: %x", got)
	}
}

func TestRank(t *testing.T) { // P4.2
	for _, l := range lists() {
		for _, to := range []api.ID{{}, small(3), greatest(), ident.Of("t")} {
			for _, id := range sample() {
				want := 0
				for _, other := range plainSort(to, l) {
					if distance(to, other).Cmp(distance(to, id)) < 0 {
						want++
					}
				}
				if got := Rank(to, id, l); got != want {
					t.Errorf("%x in %x about %x: %d, want %d", id, l, to, got, want)
				}
			}
		}
	}
	for _, c := range []struct {
		id   byte
		l    []api.ID
		want int
	}{{0, nil, 0}, {3, smalls(0, 1, 2, 1), 0}, {0, smalls(0, 1, 2, 1), 2}, {0, smalls(1, 1, 1), 1}, {7, smalls(0, 1, 2, 3, 0), 4}, {2, smalls(2, 2), 0}} {
		if got := Rank(small(3), small(c.id), c.l); got != c.want {
			t.Errorf("%d in %x: %d, want %d", c.id, c.l, got, c.want)
		}
	}
}

func TestInsert(t *testing.T) { // P4.3
	for _, l := range lists() {
		for _, to := range []api.ID{{}, small(3), greatest(), ident.Of("t")} {
			for _, id := range append(sample(), ident.Of("new")) {
				all := plainSort(to, append(slices.Clone(l), id))
				for _, most := range []int{math.MinInt, -1, 0, 1, 2, len(all) - 1, len(all), len(all) + 1, math.MaxInt} {
					want := all[:max(0, min(most, len(all)))]
					added := slices.Contains(want, id) && !slices.Contains(l, id)
					if got, ok := Insert(to, l, id, most); !slices.Equal(got, want) || ok != added {
						t.Fatalf("%x into %x about %x, %d: %x %v, want %x %v", id, l, to, most, got, ok, want, added)
					}
				}
			}
		}
	}
}

func TestInsertEdges(t *testing.T) { // P4.3
	for _, c := range []struct {
		name string
		l    []api.ID
		id   byte
		most int
		want []api.ID
		ok   bool
	}{
		{"nearer than all, and one falls out", smalls(2, 1), 3, 2, smalls(3, 2), true},
		{"farther than all, no room", smalls(2, 1), 0, 2, smalls(2, 1), false},
		{"farther than all, with room", smalls(1, 2), 0, 3, smalls(2, 1, 0), true},
		{"there already", smalls(1, 2), 1, 5, smalls(2, 1), false},
		{"there already, beyond the room", smalls(1, 2), 1, 1, smalls(2), false},
		{"into nothing", nil, 9, 1, smalls(9), true},
		{"no room at all", nil, 9, 0, nil, false},
		{"less than no room", smalls(1), 3, -1, nil, false},
		{"twice in a list out of order", smalls(0, 1, 0, 2, 1), 3, 9, smalls(3, 2, 1, 0), true},
		{"a list that is too long", smalls(0, 1, 2), 7, 2, smalls(2, 1), false},
	} {
		if got, ok := Insert(small(3), c.l, small(c.id), c.most); !slices.Equal(got, c.want) || ok != c.ok {
			t.Errorf("%s: %x %v", c.name, got, ok)
		}
	}
}

func TestArgumentsAreKept(t *testing.T) { // the rules
	room := smalls(2, 1, 1, 9, 8)
	kept := slices.Clone(room)
	l := room[:3]
	inserted, _ := Insert(small(0), l, small(7), 9)
	for _, got := range [][]api.ID{Sort(small(0), l), Least(small(0), l, 9), Least(small(0), l[:1], 1), inserted} {
		if !slices.Equal(room, kept) {
			t.Fatalf("the argument or its spare room has changed: %x", room)
		}
		for i := range got {
			got[i] = small(77)
		}
		if !slices.Equal(room, kept) {
			t.Fatal("the answer shares memory with the argument")
		}
	}
	Rank(small(0), small(1), l)
	if !slices.Equal(room, kept) {
		t.Errorf("the argument or its spare room has changed: %x", room)
	}
}

func TestOrder(t *testing.T) { // P4.4
	l := sample()
	for _, to := range l {
		for _, a := range l {
			for _, b := range l {
				ab := Cmp(to, a, b)
				if ab != -Cmp(to, b, a) || (ab == 0) != (a == b) {
					t.Fatalf("%x and %x about %x", a, b, to)
				}
				for _, c := range l[:12] {
					if ab < 0 && Cmp(to, b, c) < 0 && Cmp(to, a, c) >= 0 {
						t.Fatalf("%x, %x and %x about %x", a, b, c, to)
					}
				}
			}
		}
	}
}

func TestLongerPrefixIsNearer(t *testing.T) { // P4.5
	l := sample()
	for _, to := range l {
		for _, a := range l {
			for _, b := range l {
				if ident.Prefix(to, a) > ident.Prefix(to, b) && Cmp(to, a, b) != -1 {
					t.Fatalf("%x and %x about %x", a, b, to)
				}
			}
		}
	}
}
