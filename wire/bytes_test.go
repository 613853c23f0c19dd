package wire

import (
	"bytes"
	"math/rand"
	"reflect"
	"slices"
	"testing"

	"signpost/api"
)

// plainBytes are a message's bytes, whether it is good or not.
func plainBytes(m api.Message) []byte {
	b := []byte{1, byte(m.Kind)}
	number := func(n uint64, width int) {
		for at := width - 1; at >= 0; at-- {
			b = append(b, byte(n>>(8*at)))
		}
	}
	number(uint64(m.Txn), 4)
	b = append(b, m.From[:]...)
	if m.Kind != 1 && m.Kind != 5 {
		b = append(b, m.Key[:]...)
	}
	if m.Kind == 6 {
		number(uint64(len(m.Contacts)), 1)
		for _, c := range m.Contacts {
			b = append(b, c.ID[:]...)
			number(uint64(c.Addr.Host), 4)
			number(uint64(c.Addr.Port), 2)
		}
	}
	if m.Kind == 4 || m.Kind == 7 {
		number(uint64(len(m.Roster)), 1)
		for _, i := range m.Roster {
			b = append(b, i.Publisher[:]...)
			number(i.Seq, 8)
			number(i.Born, 8)
			number(uint64(i.Life), 4)
			if i.Gone {
				number(1, 1)
				continue
			}
			number(0, 1)
			number(uint64(i.Priority), 2)
			number(uint64(i.Weight), 2)
			number(uint64(i.Port), 2)
			number(uint64(len(i.Target)), 2)
			b = append(b, i.Target...)
		}
	}
	return b
}

func TestEncode(t *testing.T) { // P14.1, P14.5
	for _, m := range rights() {
		b, e := Encode(m)
		if e != api.OK || !bytes.Equal(b, plainBytes(m)) {
			t.Errorf("%s: %.300x %d", told(m), b, int(e))
		}
		if len(b) > api.MaxDatagram {
			t.Errorf("%s: %d bytes", told(m), len(b))
		}
	}
}

func TestEncodeExamples(t *testing.T) { // P14.1
	check := func(m api.Message, want []byte) {
		t.Helper()
		if b, e := Encode(m); e != api.OK || !bytes.Equal(b, want) {
			t.Errorf("%x %d", b, int(e))
		}
	}
	none := make([]byte, 20)
	one := slices.Concat([]byte{1}, make([]byte, 19))
	check(api.Message{Kind: api.KindPing, Txn: 1}, slices.Concat([]byte{1, 1, 0, 0, 0, 1}, none))
	check(api.Message{Kind: api.KindPong, Txn: 0x01020304, From: api.ID{1}}, slices.Concat([]byte{1, 5, 1, 2, 3, 4}, one))
	check(api.Message{Kind: api.KindStored, Txn: 1 << 31, Key: api.ID{1}}, slices.Concat([]byte{1, 8, 128, 0, 0, 0}, none, one))
	check(api.Message{Kind: api.KindNodes, From: api.ID{1}}, slices.Concat([]byte{1, 6, 0, 0, 0, 0}, one, none, []byte{0}))
	check(api.Message{Kind: api.KindNodes, Contacts: []api.Contact{{ID: api.ID{1}, Addr: api.Addr{Host: 258, Port: 80}}}}, slices.Concat([]byte{1, 6, 0, 0, 0, 0}, none, none, []byte{1}, one, []byte{0, 0, 1, 2, 0, 80}))
}

func TestEncodeWrong(t *testing.T) { // P14.1
	for _, m := range append(wrongs(), api.Message{}) {
		if b, e := Encode(m); e != api.ErrArg || len(b) != 0 {
			t.Errorf("%s: %.300x %d", told(m), b, int(e))
		}
	}
}

func TestEncodeChangesNothing(t *testing.T) { // P14.1, rule 4
	l, i := nodes(3), []api.Instance{served(1), stone(2), served(3)}
	for _, m := range []api.Message{{Kind: api.KindNodes, Contacts: l[:2]}, {Kind: api.KindStore, Roster: i[:2]}} {
		b, _ := Encode(m)
		for at := range b {
			b[at] = 255
		}
		again, e := Encode(m)
		if e != api.OK || !bytes.Equal(again, plainBytes(m)) {
			t.Error("the bytes are shared", m.Kind)
		}
	}
	if !slices.Equal(l, nodes(3)) || !slices.Equal(i, []api.Instance{served(1), stone(2), served(3)}) {
		t.Error("changed", l, i)
	}
}

func TestEncodingsAreTheirOwn(t *testing.T) { // P14.4
	seen := map[string]api.Message{}
	r := rand.New(rand.NewSource(144))
	list := rights()
	for range 2000 {
		list = append(list, drawn(r))
	}
	good := 0
	for _, m := range list {
		b, e := Encode(m)
		if e != api.OK {
			continue
		}
		good++
		if other, there := seen[string(b)]; there && !Same(other, m) {
			t.Errorf("%v and %v", m, other)
		}
		seen[string(b)] = m
	}
	if good < 1000 || len(seen) < 500 {
		t.Error("too few:", good, len(seen))
	}
}

func TestLongest(t *testing.T) { // P14.5
	longest := 0
	for _, m := range rights() {
		b, _ := Encode(m)
		longest = max(longest, len(b))
	}
	// What is ahead of a roster, and sixteen instances with a target of 253 bytes.
	if want := 1 + 1 + 4 + 20 + 20 + 1 + 16*(20+8+8+4+1+6+2+253); longest != want || longest > api.MaxDatagram {
		t.Error(longest, want)
	}
}

func TestDecode(t *testing.T) { // P14.2, P14.4
	for _, m := range rights() {
		b := plainBytes(m)
		got, e := Decode(b)
		if e != api.OK || !Same(got, m) || !Good(got) {
			t.Errorf("%s: %s %d", told(m), told(got), int(e))
		}
		if !bytes.Equal(b, plainBytes(m)) {
			t.Errorf("%s: the bytes changed", told(m))
		}
		b, e = Encode(got)
		if e != api.OK || !bytes.Equal(b, plainBytes(m)) {
			t.Errorf("%s: %.300x %d", told(m), b, int(e))
		}
	}
}

func checkNone(t *testing.T, b []byte) {
	t.Helper()
	if m, e := Decode(b); e != api.ErrForm || !reflect.DeepEqual(m, api.Message{}) {
		t.Errorf("%.300x: %s %d", b, told(m), int(e))
	}
}

func TestDecodeCut(t *testing.T) { // P14.2
	checkNone(t, nil)
	for _, m := range rights() {
		whole := plainBytes(m)
		for n := 0; n < len(whole); n += 1 + len(whole)/200 {
			checkNone(t, whole[:n])
		}
		checkNone(t, whole[:len(whole)-1])
	}
}

func TestDecodeMore(t *testing.T) { // P14.2
	for _, m := range rights() {
		whole := plainBytes(m)
		for _, more := range [][]byte{{0}, {1}, {255}, make([]byte, 20), make([]byte, 26), whole, make([]byte, api.MaxDatagram)} {
			checkNone(t, slices.Concat(whole, more))
		}
		checkNone(t, slices.Concat([]byte{0}, whole))
		checkNone(t, slices.Concat([]byte{1}, whole))
	}
}

func TestDecodeWrongVersionOrKind(t *testing.T) { // P14.2
	for _, m := range rights() {
		whole := plainBytes(m)
		for n := range 256 {
			b := slices.Clone(whole)
			if b[0] = byte(n); n != 1 {
				checkNone(t, b)
			}
			b[0] = 1
			if b[1] = byte(n); !isNine(n) {
				checkNone(t, b)
			}
		}
	}
}

func TestDecodeWrong(t *testing.T) { // P14.2
	for _, m := range wrongs() {
		if m.Kind != int(byte(m.Kind)) {
			continue
		}
		// What a message's kind has no room for is not in its bytes.
		read := m
		if m.Kind == api.KindPing || m.Kind == api.KindPong {
			read.Key = api.ID{}
		}
		if m.Kind != api.KindNodes {
			read.Contacts = nil
		}
		if m.Kind != api.KindStore && m.Kind != api.KindFound {
			read.Roster = nil
		}
		if !Good(read) {
			checkNone(t, plainBytes(m))
		} else if got, e := Decode(plainBytes(m)); e != api.OK || !Same(got, read) {
			t.Errorf("%s: %s %d", told(read), told(got), int(e))
		}
	}
}

func TestDecodeOfOneThatIsNoneOfTheKind(t *testing.T) { // P14.2
	key := slices.Concat([]byte{1, 1}, make([]byte, 4+20+20))
	checkNone(t, key) // a ping with a key
	key[1] = byte(api.KindPong)
	checkNone(t, key)
	key[1] = byte(api.KindStore)
	checkNone(t, append(key, 0)) // a store of nothing
	key[1] = byte(api.KindFound)
	checkNone(t, append(key, 0))
	checkNone(t, key)
}

func TestDecodeReadsNoSpareRoom(t *testing.T) { // P14.2, rules 4 and 8
	whole := plainBytes(rights()[18])
	checkNone(t, whole[:len(whole)-1])
	b := append(slices.Clone(whole), 7)
	if m, e := Decode(b[:len(whole)]); e != api.OK || !Same(m, rights()[18]) || b[len(whole)] != 7 {
		t.Error(m, int(e))
	}
}

func TestDecodeSharesNothing(t *testing.T) { // P14.2, rule 5
	for _, m := range rights() {
		b := plainBytes(m)
		got, _ := Decode(b)
		for at := range b {
			b[at] = 255
		}
		if !Same(got, m) {
			t.Errorf("%s: %s", told(m), told(got))
		}
	}
}

func TestDecodeTakesOnlyMessages(t *testing.T) { // P14.2, P14.4
	r := rand.New(rand.NewSource(142))
	good := 0
	for range 20000 {
		b := plainBytes(drawn(r))
		for range r.Intn(3) {
			b[r.Intn(len(b))] = byte(r.Intn(10))
		}
		m, e := Decode(b)
		if e != api.OK {
			if e != api.ErrForm || !reflect.DeepEqual(m, api.Message{}) {
				t.Fatalf("%x: %v %d", b, m, int(e))
			}
			continue
		}
		good++
		if back, e := Encode(m); e != api.OK || !bytes.Equal(back, b) {
			t.Fatalf("%x is taken for %v", b, m)
		}
	}
	if good < 5000 || good > 19000 {
		t.Error("too few, or too many, were messages:", good)
	}
}

func TestDecodeRandomBytes(t *testing.T) { // P14.2, rule 1
	r := rand.New(rand.NewSource(143))
	for range 5000 {
		b := make([]byte, r.Intn(200))
		r.Read(b)
		if len(b) > 1 {
			b[0], b[1] = 1, byte(r.Intn(11))
		}
		m, e := Decode(b)
		if back, f := Encode(m); e == api.OK && (f != api.OK || !bytes.Equal(back, b)) {
			t.Fatalf("%x: %v", b, m)
		}
	}
}
