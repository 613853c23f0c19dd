package contact

import (
	"bytes"
	"math/big"
	"math/rand"
	"slices"
	"testing"

	"signpost/api"
	"signpost/octet"
)

// one is a good contact with a small ID, for each n.
func one(n byte) api.Contact { return at(n, uint32(n)+1) }

func at(n byte, host uint32) api.Contact {
	return api.Contact{ID: api.ID{19: n}, Addr: api.Addr{Host: host, Port: 80}}
}

func ones(l ...byte) []api.Contact {
	var out []api.Contact
	for _, n := range l {
		out = append(out, one(n))
	}
	return out
}

// many are n good contacts with IDs of their own.
func many(n int) []api.Contact {
	var out []api.Contact
	for i := range n {
		out = append(out, api.Contact{ID: api.ID{byte(i >> 8), byte(i), 5: 9}, Addr: api.Addr{Host: uint32(i + 1), Port: uint16(i + 7)}})
	}
	return out
}

func greatest() api.Contact {
	c := api.Contact{Addr: api.Addr{Host: 1<<32 - 1, Port: 65535}}
	for i := range c.ID {
		c.ID[i] = 255
	}
	return c
}

// wrong are contacts that are not good.
func wrong() []api.Contact {
	return []api.Contact{
		{}, {ID: api.ID{1}}, {ID: api.ID{1}, Addr: api.Addr{Host: 1}}, {ID: api.ID{1}, Addr: api.Addr{Port: 1}},
		{ID: greatest().ID, Addr: api.Addr{Host: 1<<32 - 1}}, {ID: greatest().ID, Addr: api.Addr{Port: 65535}}, {Addr: api.Addr{Host: 1}}, {Addr: api.Addr{Port: 1}},
	}
}

// right are contacts that are good, the edges among them; the first three have the zero id, all others IDs of their own.
func right() []api.Contact {
	l := []api.Contact{{Addr: api.Addr{Host: 1, Port: 1}}, {Addr: api.Addr{Host: 1 << 31, Port: 1 << 15}}, one(0), one(1), one(255), greatest(), {ID: api.ID{1, 2, 3}, Addr: api.Addr{Host: 0x01020304, Port: 0x0506}}}
	r := rand.New(rand.NewSource(8))
	for range 50 {
		c := api.Contact{Addr: api.Addr{Host: 1 + r.Uint32()>>1, Port: 1 + uint16(r.Intn(65535))}}
		r.Read(c.ID[:])
		l = append(l, c)
	}
	return l
}

func plainBytes(c api.Contact) []byte {
	h, p := c.Addr.Host, c.Addr.Port
	return append(slices.Clone(c.ID[:]), byte(h>>24), byte(h>>16), byte(h>>8), byte(h), byte(p>>8), byte(p))
}

// plainList are a list's bytes, whether it is good or not.
func plainList(l []api.Contact) []byte {
	b := []byte{byte(len(l))}
	for _, c := range l {
		b = append(b, plainBytes(c)...)
	}
	return b
}

func TestGood(t *testing.T) { // P8.1
	for _, c := range right() {
		if !Good(c) {
			t.Errorf("%v is good", c)
		}
	}
	for _, c := range wrong() {
		if Good(c) {
			t.Errorf("%v is not good", c)
		}
	}
}

func TestBytes(t *testing.T) { // P8.1
	for _, c := range append(right(), wrong()...) {
		if got := Bytes(c); len(got) != 26 || !bytes.Equal(got, plainBytes(c)) {
			t.Errorf("%v: %x", c, got)
		}
	}
	c := api.Contact{ID: api.ID{0: 1, 19: 20}, Addr: api.Addr{Host: 0x0a0b0c0d, Port: 0x0e0f}}
	if got := string(Bytes(c)); got != "\x01"+string(make([]byte, 18))+"\x14\x0a\x0b\x0c\x0d\x0e\x0f" {
		t.Errorf("%x", got)
	}
}

func TestRead(t *testing.T) { // P8.1, P8.4
	for _, c := range right() {
		if got, e := Read(plainBytes(c)); got != c || e != api.OK {
			t.Errorf("%v: %v %d", c, got, int(e))
		}
	}
}

func TestReadWrong(t *testing.T) { // P8.1
	b := plainBytes(greatest())
	cases := [][]byte{nil, {}, {1}, b[:6], b[:19], b[:20], b[:21], b[:25], append(slices.Clone(b), 1), append(slices.Clone(b), 0), append(slices.Clone(b), b...), bytes.Repeat(b, 100), make([]byte, 26), make([]byte, 27)}
	for _, c := range wrong() {
		cases = append(cases, plainBytes(c))
	}
	for _, b := range cases {
		if c, e := Read(b); c != (api.Contact{}) || e != api.ErrForm {
			t.Errorf("%x: %v %d", b, c, int(e))
		}
	}
	if c, e := Read(b[:25:26]); c != (api.Contact{}) || e != api.ErrForm {
		t.Error("what lies beyond the length is read")
	}
}

func TestList(t *testing.T) { // P8.2
	for _, l := range [][]api.Contact{nil, {}, ones(0), ones(3, 1, 2), right()[2:], many(2), many(63), many(64), {greatest(), one(0)}, {at(1, 9), at(2, 9)}} {
		if got, e := List(l); e != api.OK || !bytes.Equal(got, plainList(l)) {
			t.Errorf("%d contacts: %d, %x", len(l), int(e), got)
		}
	}
	if got, e := List(nil); e != api.OK || !bytes.Equal(got, []byte{0}) {
		t.Errorf("no contacts: %x", got)
	}
	if got, _ := List(many(64)); len(got) != 1+64*26 || got[0] != 64 {
		t.Errorf("the most: %d bytes", len(got))
	}
}

// wrongLists are lists that are not good, each for one reason, and some for several.
func wrongLists() [][]api.Contact {
	l := [][]api.Contact{
		many(65), many(66), many(255), many(256), many(257), many(320), many(5000),
		ones(1, 1), ones(1, 2, 1), ones(1, 2, 3, 3), {at(1, 5), at(1, 6)}, {at(1, 5), one(2), at(1, 6)},
		append(many(63), many(1)...), append(many(64), many(1)...), append(many(60), at(0, 0)),
	}
	for _, c := range wrong() {
		c.ID[3] = 77
		l = append(l, []api.Contact{c}, []api.Contact{one(1), c, one(2)}, []api.Contact{c, one(1)}, append(many(63), c), append(many(64), c))
	}
	return l
}

func TestListWrong(t *testing.T) { // P8.2
	for _, l := range wrongLists() {
		if got, e := List(l); len(got) != 0 || e != api.ErrArg {
			t.Errorf("%d contacts: %d, %x", len(l), int(e), got)
		}
	}
}

func TestReadList(t *testing.T) { // P8.2, P8.4
	for _, l := range [][]api.Contact{nil, ones(0), ones(3, 1, 2), many(2), many(63), many(64), {greatest(), one(0)}, {at(1, 9), at(2, 9)}, right()[2:]} {
		for _, ahead := range []string{"", "a", "ahead of it"} {
			for _, behind := range []string{"", "\x00", "\x01", "behind it, and more than one contact is long"} {
				r := octet.Open(slices.Concat([]byte(ahead), plainList(l), []byte(behind)))
				r.Take(len(ahead))
				got := ReadList(r)
				if !slices.Equal(got, l) || r.Bad() || r.Left() != len(behind) || string(r.Take(len(behind))) != behind {
					t.Errorf("%d contacts between %q and %q: %d", len(l), ahead, behind, len(got))
				}
			}
		}
	}
}

func TestReadListsInARow(t *testing.T) { // P8.2
	r := octet.Open(slices.Concat(plainList(ones(1, 2)), plainList(nil), plainList(ones(1))))
	a, b, c := ReadList(r), ReadList(r), ReadList(r)
	if !slices.Equal(a, ones(1, 2)) || len(b) != 0 || !slices.Equal(c, ones(1)) || r.Done() != api.OK {
		t.Error(a, b, c)
	}
	if l := ReadList(r); len(l) != 0 || !r.Bad() {
		t.Error("at its end", l)
	}
}

func isSpoilt(r *octet.Reader) bool {
	return r.Bad() && r.Left() == 0 && r.Done() == api.ErrForm && r.Num(1) == 0
}

func TestReadListCut(t *testing.T) { // P8.2
	whole := plainList(ones(3, 1, 2))
	cases := [][]byte{nil, {1}, {64}, {65}, {255}}
	for n := range whole {
		cases = append(cases, whole[:n])
	}
	for _, b := range cases {
		for _, ahead := range []string{"", "ab"} {
			r := octet.Open(slices.Concat([]byte(ahead), b))
			r.Take(len(ahead))
			if l := ReadList(r); len(l) != 0 || !isSpoilt(r) {
				t.Errorf("%x behind %q: %d contacts", b, ahead, len(l))
			}
		}
	}
}

func TestReadListWrong(t *testing.T) { // P8.2
	for _, l := range wrongLists() {
		if len(l) > 255 { // no byte counts so many
			continue
		}
		for _, behind := range []string{"", "behind it"} {
			r := octet.Open(append(plainList(l), behind...))
			if got := ReadList(r); len(got) != 0 || !isSpoilt(r) {
				t.Errorf("%v with %q behind it: %d contacts", l, behind, len(got))
			}
		}
	}
}

func TestReadListOfNoReader(t *testing.T) { // P8.2, rule 1
	for _, r := range []*octet.Reader{nil, {}} {
		if l := ReadList(r); len(l) != 0 || !r.Bad() || r.Done() != api.ErrNil {
			t.Error(l)
		}
	}
	r := octet.Open(plainList(ones(1, 2)))
	r.Take(1000)
	for range 2 {
		if l := ReadList(r); len(l) != 0 || !isSpoilt(r) {
			t.Error("a bad reader", l)
		}
	}
}

func TestReadListTakesOnlyLists(t *testing.T) { // P8.2, P8.4
	r := rand.New(rand.NewSource(82))
	good := 0
	for range 20000 {
		b := plainList(ones(1, 2, 3)[:r.Intn(4)])
		for range r.Intn(3) {
			b[r.Intn(len(b))] = byte(r.Intn(4))
		}
		reader := octet.Open(b)
		l := ReadList(reader)
		if reader.Bad() {
			if len(l) != 0 {
				t.Fatalf("%x: %v", b, l)
			}
			continue
		}
		good++
		back, e := List(l)
		if e != api.OK || !bytes.HasPrefix(b, back) || reader.Left() != len(b)-len(back) {
			t.Fatalf("%x is taken for %v", b, l)
		}
	}
	if good < 1000 || good > 19000 {
		t.Error("too few, or too many, were lists:", good)
	}
}

func distance(a, b api.ID) *big.Int {
	return new(big.Int).Xor(new(big.Int).SetBytes(a[:]), new(big.Int).SetBytes(b[:]))
}

// plainSort is the promise, word by word: it seeks the first of the nearest of what is left.
func plainSort(t api.ID, l []api.Contact) []api.Contact {
	var out []api.Contact
	left := slices.Clone(l)
	for len(left) > 0 {
		best := left[0]
		for _, c := range left {
			if distance(t, c.ID).Cmp(distance(t, best.ID)) < 0 {
				best = c
			}
		}
		out = append(out, best)
		left = slices.DeleteFunc(left, func(c api.Contact) bool { return c.ID == best.ID })
	}
	return out
}

func TestSort(t *testing.T) { // P8.3
	var twice []api.Contact // many contacts with few IDs, each with an address of its own
	r := rand.New(rand.NewSource(83))
	for i := range 300 {
		twice = append(twice, at(byte(r.Intn(20)), uint32(1000-i)))
	}
	for _, l := range [][]api.Contact{nil, {}, ones(5), ones(1, 1, 1), ones(0, 1, 2, 3), ones(3, 2, 1, 0), {at(1, 5), at(1, 4)}, {at(1, 4), at(2, 1), at(1, 5)}, many(300), twice, right(), wrong(), append(wrong(), right()...)} {
		for _, to := range []api.ID{{}, one(3).ID, greatest().ID, many(9)[8].ID, right()[20].ID} {
			if got, want := Sort(to, l), plainSort(to, l); !slices.Equal(got, want) {
				t.Errorf("%d contacts about %x: %v, want %v", len(l), to, got, want)
			}
		}
	}
	l := []api.Contact{at(0, 7), at(1, 6), at(2, 5), at(1, 4), at(0, 3), at(1, 2)}
	if got := Sort(one(3).ID, l); !slices.Equal(got, []api.Contact{at(2, 5), at(1, 6), at(0, 7)}) {
		t.Errorf("the first of each ID is kept: %v", got)
	}
	if got := Sort(api.ID{}, []api.Contact{{ID: api.ID{1}}, {}}); !slices.Equal(got, []api.Contact{{}, {ID: api.ID{1}}}) {
		t.Errorf("contacts that are not good are sorted as well: %v", got)
	}
}

func TestFind(t *testing.T) { // P8.3
	l := []api.Contact{at(3, 1), at(1, 2), at(2, 3), at(1, 4), {}}
	for _, c := range []struct {
		id   api.ID
		want int
	}{{one(3).ID, 0}, {one(1).ID, 1}, {one(2).ID, 2}, {api.ID{}, 4}, {one(4).ID, -1}, {greatest().ID, -1}, {api.ID{0: 3}, -1}, {api.ID{0: 1, 19: 1}, -1}} {
		if got := Find(l, c.id); got != c.want {
			t.Errorf("%x: %d, want %d", c.id, got, c.want)
		}
	}
	if Find(nil, api.ID{}) != -1 || Find([]api.Contact{}, one(1).ID) != -1 || Find(l[:4], api.ID{}) != -1 {
		t.Error("there is none")
	}
	if long := many(5000); Find(long, long[4999].ID) != 4999 {
		t.Error("the last of many")
	}
}

func TestWithout(t *testing.T) { // P8.3
	l := []api.Contact{at(3, 1), at(1, 2), at(2, 3), at(1, 4), {}, at(3, 1)}
	for _, c := range []struct {
		id   api.ID
		want []api.Contact
	}{
		{one(1).ID, []api.Contact{l[0], l[2], l[4], l[5]}},
		{one(3).ID, []api.Contact{l[1], l[2], l[3], l[4]}},
		{one(2).ID, []api.Contact{l[0], l[1], l[3], l[4], l[5]}},
		{api.ID{}, []api.Contact{l[0], l[1], l[2], l[3], l[5]}},
		{one(9).ID, l},
		{greatest().ID, l},
	} {
		if got := Without(l, c.id); !slices.Equal(got, c.want) {
			t.Errorf("%x: %v", c.id, got)
		}
	}
	if len(Without(nil, api.ID{})) != 0 || len(Without([]api.Contact{}, api.ID{})) != 0 || len(Without(ones(1), one(1).ID)) != 0 || len(Without(ones(1, 1, 1), one(1).ID)) != 0 {
		t.Error("none are left")
	}
}

func TestRoundTrip(t *testing.T) { // P8.4
	seen := map[string]api.Contact{}
	for _, c := range right() {
		b := Bytes(c)
		if back, e := Read(b); back != c || e != api.OK {
			t.Errorf("%v: %v %d", c, back, int(e))
		}
		if other, ok := seen[string(b)]; ok && other != c {
			t.Errorf("%v and %v have the same bytes", c, other)
		}
		seen[string(b)] = c
	}
	lists := map[string][]api.Contact{}
	for _, l := range [][]api.Contact{nil, ones(1), ones(2), ones(1, 2), ones(2, 1), {at(1, 7)}, {at(1, 8)}, ones(1, 2, 3), many(63), many(64), right()[2:]} {
		b, e := List(l)
		r := octet.Open(b)
		if back := ReadList(r); e != api.OK || !slices.Equal(back, l) || r.Done() != api.OK {
			t.Errorf("%d contacts: %v", len(l), back)
		}
		if other, ok := lists[string(b)]; ok {
			t.Errorf("%v and %v have the same bytes", l, other)
		}
		lists[string(b)] = l
	}
}

func TestArgumentsAreKept(t *testing.T) { // the rules
	room := []api.Contact{at(3, 1), at(1, 2), at(1, 3), at(2, 4), one(9), one(8)}
	kept := slices.Clone(room)
	l := room[:4]
	for _, got := range [][]api.Contact{Sort(api.ID{}, l), Sort(one(3).ID, l[:1]), Without(l, one(1).ID), Without(l, one(7).ID)} {
		if !slices.Equal(room, kept) {
			t.Fatalf("an argument or its spare room has changed: %v", room)
		}
		clear(append(got, one(5), one(6)))
		if !slices.Equal(room, kept) {
			t.Fatal("an answer shares memory with its argument")
		}
	}
	List(l)
	List(l[:2])
	if Find(l, one(9).ID) != -1 || !slices.Equal(room, kept) {
		t.Error("an argument has changed, or was read beyond its length")
	}
	b := plainBytes(one(1))
	read := slices.Clone(b)
	if Read(b); !bytes.Equal(b, read) {
		t.Error("the bytes have changed")
	}
	clear(Bytes(one(1)))
	if !bytes.Equal(Bytes(one(1)), b) {
		t.Error("answers share memory")
	}
}
