package ident

import (
	"crypto/sha1"
	"encoding/hex"
	"math"
	"math/big"
	"math/rand"
	"slices"
	"strings"
	"testing"

	"signpost/api"
)

func small(n byte) api.ID { return api.ID{api.IDLen - 1: n} }

func greatest() api.ID {
	var id api.ID
	for i := range id {
		id[i] = 255
	}
	return id
}

// number is the id as the document compares it.
func number(id api.ID) *big.Int { return new(big.Int).SetBytes(id[:]) }

// idOf is the id of a number below 2^160.
func idOf(n *big.Int) api.ID {
	var id api.ID
	n.FillBytes(id[:])
	return id
}

// sample has the edges, each single bit, neighbours of these, and ids of all kinds that share prefixes.
func sample() []api.ID {
	l := []api.ID{{}, greatest(), small(1), small(2), small(255), {0x80}, {0x81}, {0x7f}, {0, 1}, {18: 1}, {18: 1, 19: 255}}
	one := big.NewInt(1)
	top := new(big.Int).Lsh(one, 160)
	for i := range uint(160) {
		n := new(big.Int).Lsh(one, i)
		l = append(l, idOf(n), idOf(new(big.Int).Sub(n, one)), idOf(new(big.Int).Sub(top, n)))
	}
	r := rand.New(rand.NewSource(3))
	for range 60 {
		var id api.ID
		r.Read(id[:])
		l = append(l, id)
		shared := l[r.Intn(len(l))]
		r.Read(shared[r.Intn(api.IDLen):])
		l = append(l, shared)
	}
	return l
}

// pairs calls f for many pairs, equal ones among them.
func pairs(f func(a, b api.ID)) {
	l := sample()
	for i, a := range l {
		for _, b := range l[:i+1] {
			f(a, b)
			f(b, a)
		}
	}
}

func TestOf(t *testing.T) { // P3.1
	if got := Text(Of("abc")); got != "a9993e364706816aba3e25717850c26c9cd0d89d" {
		t.Error(got)
	}
	for _, s := range []string{"", "a", "\x00", "\xff\xfe", "é", "_http._tcp.example", strings.Repeat("x", 64), strings.Repeat("yz", 5000)} {
		if Of(s) != api.ID(sha1.Sum([]byte(s))) {
			t.Errorf("%q: %x", s, Of(s))
		}
	}
}

func TestTextAndParse(t *testing.T) { // P3.1
	for _, id := range sample() {
		s := Text(id)
		if want := hex.EncodeToString(id[:]); s != want {
			t.Errorf("%s, want %s", s, want)
		}
		if back, e := Parse(s); back != id || e != api.OK {
			t.Errorf("%s: %x %d", s, back, int(e))
		}
	}
	if s := Text(api.ID{0x09, 0xaf, 0x90, 0xfa}); s != "09af90fa"+strings.Repeat("0", 32) {
		t.Error(s)
	}
}

func TestParseWrong(t *testing.T) { // P3.1
	whole := "a9993e364706816aba3e25717850c26c9cd0d89d"
	wrong := []string{
		"", "a", whole[:39], whole + "0", whole[:38], whole + "00", whole + whole, strings.ToUpper(whole),
		strings.Repeat("F", 40), whole + "\n", " " + whole, "0x" + whole, "0x" + whole[2:], "-" + whole[1:], "+" + whole[1:],
		strings.Repeat("é", 20), strings.Repeat("é", 40), strings.Repeat("\x00", 40), strings.Repeat("\xff", 40),
	}
	for place := range 40 {
		wrong = append(wrong, whole[:place]+"A"+whole[place+1:])
	}
	for b := range 256 {
		if !strings.Contains("0123456789abcdef", string(rune(b))) {
			for _, place := range []int{0, 1, 20, 38, 39} {
				wrong = append(wrong, whole[:place]+string([]byte{byte(b)})+whole[place+1:])
			}
		}
	}
	for _, s := range wrong {
		if id, e := Parse(s); id != (api.ID{}) || e != api.ErrForm {
			t.Errorf("%q: %x %d", s, id, int(e))
		}
	}
}

func TestXor(t *testing.T) { // P3.2
	pairs(func(a, b api.ID) {
		if got, want := Xor(a, b), idOf(new(big.Int).Xor(number(a), number(b))); got != want {
			t.Errorf("%x and %x: %x, want %x", a, b, got, want)
		}
	})
}

func TestCmp(t *testing.T) { // P3.2
	pairs(func(a, b api.ID) {
		if got, want := Cmp(a, b), number(a).Cmp(number(b)); got != want {
			t.Errorf("%x and %x: %d, want %d", a, b, got, want)
		}
	})
	if Cmp(api.ID{}, greatest()) != -1 || Cmp(greatest(), api.ID{}) != 1 || Cmp(greatest(), greatest()) != 0 {
		t.Error("the edges")
	}
}

func TestBit(t *testing.T) { // P3.3
	for _, id := range sample() {
		n := number(id)
		for i := range 160 {
			if got, want := Bit(id, i), int(n.Bit(159-i)); got != want {
				t.Errorf("bit %d of %x: %d, want %d", i, id, got, want)
			}
		}
	}
	if Bit(api.ID{0x80}, 0) != 1 || Bit(small(1), 159) != 1 || Bit(small(1), 0) != 0 || Bit(api.ID{0x80}, 159) != 0 {
		t.Error("the first bit or the last one")
	}
}

func beyond() []int {
	return []int{-1, 160, -7, -8, -9, -160, 161, 167, 168, 320, 256, 1 << 32, math.MinInt, math.MaxInt}
}

func TestNoSuchBit(t *testing.T) { // P3.3
	for _, i := range beyond() {
		for _, id := range []api.ID{{}, greatest(), Of("abc")} {
			if got := Bit(id, i); got != 0 {
				t.Errorf("bit %d: %d", i, got)
			}
			for _, bit := range []int{0, 1, -1, 2} {
				if got := With(id, i, bit); got != id {
					t.Errorf("bit %d as %d: %x", i, bit, got)
				}
			}
		}
	}
}

func TestWith(t *testing.T) { // P3.3
	for _, id := range sample() {
		for i := range 160 {
			for _, bit := range []int{0, 1, -1, 2, 256, math.MinInt, math.MaxInt} {
				one := uint(1)
				if bit == 0 {
					one = 0
				}
				want := idOf(new(big.Int).SetBit(number(id), 159-i, one))
				if got := With(id, i, bit); got != want {
					t.Fatalf("bit %d of %x as %d: %x, want %x", i, id, bit, got, want)
				}
			}
		}
	}
	if With(api.ID{}, 0, 1) != (api.ID{0x80}) || With(api.ID{}, 159, 1) != small(1) || With(greatest(), 159, 0) == greatest() {
		t.Error("the first bit or the last one")
	}
}

func TestPrefix(t *testing.T) { // P3.3
	pairs(func(a, b api.ID) {
		want := 160 - new(big.Int).Xor(number(a), number(b)).BitLen()
		if got := Prefix(a, b); got != want {
			t.Errorf("%x and %x: %d, want %d", a, b, got, want)
		}
	})
	for _, c := range []struct {
		a, b api.ID
		want int
	}{
		{api.ID{0x80}, api.ID{0x81}, 7}, {api.ID{}, api.ID{}, 160}, {greatest(), greatest(), 160},
		{api.ID{}, greatest(), 0}, {api.ID{}, small(1), 159}, {api.ID{}, api.ID{0x80}, 0}, {api.ID{1}, api.ID{1, 0x80}, 8},
	} {
		if got := Prefix(c.a, c.b); got != c.want {
			t.Errorf("%x and %x: %d, want %d", c.a, c.b, got, c.want)
		}
	}
}

func TestNext(t *testing.T) { // P3.3
	for _, id := range sample() {
		got, ok := Next(id)
		if id == greatest() {
			if got != (api.ID{}) || ok {
				t.Errorf("the greatest one: %x %v", got, ok)
			}
			continue
		}
		want := new(big.Int).Add(number(id), big.NewInt(1))
		if number(got).Cmp(want) != 0 || !ok {
			t.Errorf("%x: %x %v", id, got, ok)
		}
	}
	if got, ok := Next(small(255)); got != (api.ID{18: 1}) || !ok {
		t.Errorf("a carry: %x %v", got, ok)
	}
	if got, ok := Next(api.ID{}); got != small(1) || !ok {
		t.Errorf("zero: %x %v", got, ok)
	}
}

func TestSort(t *testing.T) { // P3.4
	l := sample()
	l = append(l, l[:100]...)
	different := map[api.ID]bool{}
	for _, id := range l {
		different[id] = true
	}
	got := Sort(l)
	if len(got) != len(different) {
		t.Errorf("%d ids, want %d", len(got), len(different))
	}
	for i, id := range got {
		if i > 0 && number(got[i-1]).Cmp(number(id)) >= 0 {
			t.Errorf("%x before %x", got[i-1], id)
		}
		if !different[id] {
			t.Errorf("%x is not of the list", id)
		}
	}
}

func TestSortEdges(t *testing.T) { // P3.4
	for _, c := range []struct{ in, want []api.ID }{
		{nil, nil},
		{[]api.ID{}, nil},
		{[]api.ID{{}}, []api.ID{{}}},
		{[]api.ID{small(3), small(1), small(3)}, []api.ID{small(1), small(3)}},
		{[]api.ID{small(7), small(7), small(7)}, []api.ID{small(7)}},
		{[]api.ID{greatest(), {}, greatest(), {}}, []api.ID{{}, greatest()}},
		{[]api.ID{small(1), small(2), small(3)}, []api.ID{small(1), small(2), small(3)}},
		{[]api.ID{{1}, small(255), {0x80}, {0x7f}}, []api.ID{small(255), {1}, {0x7f}, {0x80}}},
	} {
		if got := Sort(c.in); !slices.Equal(got, c.want) {
			t.Errorf("%x: %x, want %x", c.in, got, c.want)
		}
	}
}

func TestSortKeepsItsArgument(t *testing.T) { // the rules
	room := []api.ID{small(2), small(1), small(1), small(9), small(8)}
	kept := slices.Clone(room)
	got := Sort(room[:3])
	if !slices.Equal(room, kept) {
		t.Errorf("the argument or its spare room has changed: %x", room)
	}
	if len(got) != 2 || got[0] != small(1) {
		t.Fatalf("%x", got)
	}
	got[0], got[1] = small(5), small(6)
	if !slices.Equal(room, kept) {
		t.Error("the answer shares memory with the argument")
	}
}

func TestDistance(t *testing.T) { // P3.5
	l := sample()
	pairs(func(a, b api.ID) {
		if Xor(a, a) != (api.ID{}) || Xor(a, b) != Xor(b, a) {
			t.Errorf("%x and %x", a, b)
		}
		if a != b && Xor(a, b) == (api.ID{}) {
			t.Errorf("no distance between %x and %x", a, b)
		}
		c := l[(int(a[0])+int(b[19]))%len(l)]
		if Xor(Xor(a, b), Xor(b, c)) != Xor(a, c) {
			t.Errorf("%x, %x and %x", a, b, c)
		}
	})
}

func TestThreePrefixes(t *testing.T) { // P3.6
	l := sample()
	pairs(func(a, b api.ID) {
		for _, c := range []api.ID{l[(int(a[0])+int(b[19]))%len(l)], a, Xor(a, small(1))} {
			p := []int{Prefix(a, b), Prefix(b, c), Prefix(c, a)}
			slices.Sort(p)
			if p[0] != p[1] {
				t.Errorf("%x, %x and %x: %v", a, b, c, p)
			}
		}
	})
}
