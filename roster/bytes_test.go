package roster

import (
	"bytes"
	"math/rand"
	"slices"
	"strings"
	"testing"

	"signpost/api"
	"signpost/octet"
)

// plainBytes are a roster's bytes, whether it is good or not.
func plainBytes(l []api.Instance) []byte {
	b := []byte{byte(len(l))}
	number := func(n uint64, width int) {
		for at := width - 1; at >= 0; at-- {
			b = append(b, byte(n>>(8*at)))
		}
	}
	for _, i := range l {
		b = append(b, i.Publisher[:]...)
		number(i.Seq, 8)
		number(i.Born, 8)
		number(uint64(i.Life), 4)
		if i.Gone {
			number(1, 1)
			continue
		}
		number(0, 1)
		number(uint64(i.Priority), 2)
		number(uint64(i.Weight), 2)
		number(uint64(i.Port), 2)
		number(uint64(len(i.Target)), 2)
		b = append(b, i.Target...)
	}
	return b
}

// longest is the roster of the most bytes.
func longest() []api.Instance {
	l := many(16)
	for at := range l {
		l[at].Target = strings.Repeat("a.", 126) + "a"
	}
	return l
}

func TestBytes(t *testing.T) { // P12.4
	for _, l := range append(rights(), longest()) {
		if b, e := Bytes(l); e != api.OK || !bytes.Equal(b, plainBytes(l)) {
			t.Errorf("%v: %x %d", l, b, int(e))
		}
	}
	if b, e := Bytes(nil); e != api.OK || !bytes.Equal(b, []byte{0}) {
		t.Errorf("no instances: %x %d", b, int(e))
	}
	if b, e := Bytes(longest()); e != api.OK || len(b) != 1+16*(20+8+8+4+1+6+2+253) || b[0] != 16 {
		t.Errorf("the most: %d bytes, %d", len(b), int(e))
	}
}

func TestBytesWrong(t *testing.T) { // P12.4
	for _, l := range wrongs() {
		if b, e := Bytes(l); e != api.ErrArg || len(b) != 0 {
			t.Errorf("%.300v: %x %d", l, b, int(e))
		}
	}
}

func TestBytesAreTheirOwn(t *testing.T) { // P12.7
	seen := map[string][]api.Instance{}
	r := rand.New(rand.NewSource(127))
	lists := rights()
	for range 500 {
		lists = append(lists, collected(r, 20))
	}
	for _, l := range lists {
		b, _ := Bytes(l)
		if other, there := seen[string(b)]; there && !slices.Equal(other, l) {
			t.Errorf("%v and %v", l, other)
		}
		seen[string(b)] = l
	}
	if len(seen) < 100 {
		t.Error("too few:", len(seen))
	}
}

func TestRead(t *testing.T) { // P12.4, P12.7
	for _, l := range append(rights(), longest()) {
		for _, ahead := range []string{"", "\x00", "ahead of it"} {
			for _, behind := range []string{"", "\x00", "\x01", "behind it, and of more bytes than an instance that is gone has"} {
				r := octet.Open(slices.Concat([]byte(ahead), plainBytes(l), []byte(behind)))
				r.Take(len(ahead))
				got := Read(r)
				if !slices.Equal(got, l) || r.Bad() || r.Left() != len(behind) || string(r.Take(len(behind))) != behind {
					t.Errorf("%v between %q and %q: %v", l, ahead, behind, got)
				}
			}
		}
	}
}

func TestReadInARow(t *testing.T) { // P12.4
	r := octet.Open(slices.Concat(plainBytes(ones(1, 2)), plainBytes(nil), plainBytes(ones(1))))
	a, b, c := Read(r), Read(r), Read(r)
	if !slices.Equal(a, ones(1, 2)) || len(b) != 0 || !slices.Equal(c, ones(1)) || r.Done() != api.OK {
		t.Error(a, b, c)
	}
	if l := Read(r); len(l) != 0 || !isSpoilt(r) {
		t.Error("at its end", l)
	}
}

func isSpoilt(r *octet.Reader) bool {
	return r.Bad() && r.Left() == 0 && r.Done() == api.ErrForm && r.Num(1) == 0
}

func checkNone(t *testing.T, b []byte) {
	t.Helper()
	for _, ahead := range []string{"", "ab"} {
		r := octet.Open(slices.Concat([]byte(ahead), b))
		r.Take(len(ahead))
		if l := Read(r); len(l) != 0 || !isSpoilt(r) {
			t.Errorf("%.300x behind %q: %v", b, ahead, l)
		}
	}
}

func TestReadCut(t *testing.T) { // P12.4
	whole := plainBytes(ones(1, 2, 3))
	for n := range whole {
		checkNone(t, whole[:n])
	}
	for _, count := range []byte{1, 16, 17, 255} {
		checkNone(t, []byte{count})
	}
	for _, count := range []byte{4, 5, 16, 17, 255} {
		more := slices.Clone(whole)
		more[0] = count
		checkNone(t, more)
	}
}

func TestReadWrong(t *testing.T) { // P12.4
	for _, l := range wrongs() {
		// No byte counts more; what else a stone should not have is not in its bytes.
		if len(l) > 255 || slices.ContainsFunc(l, func(i api.Instance) bool { return i.Gone && i.Port != 0 }) {
			continue
		}
		checkNone(t, plainBytes(l))
		checkNone(t, append(plainBytes(l), "behind it"...))
	}
}

func TestReadOfNoReader(t *testing.T) { // P12.4, rule 1
	for _, r := range []*octet.Reader{nil, {}} {
		if l := Read(r); len(l) != 0 || !r.Bad() || r.Done() != api.ErrNil {
			t.Error(l)
		}
	}
	r := octet.Open(plainBytes(ones(1, 2)))
	r.Take(1000)
	for range 2 {
		if l := Read(r); len(l) != 0 || !isSpoilt(r) {
			t.Error("a bad reader", l)
		}
	}
}

func TestReadTakesOnlyRosters(t *testing.T) { // P12.4, P12.7
	r := rand.New(rand.NewSource(124))
	good := 0
	for range 20000 {
		b := plainBytes(collected(r, 20))
		for range r.Intn(3) {
			b[r.Intn(len(b))] = byte(r.Intn(4))
		}
		reader := octet.Open(b)
		l := Read(reader)
		if reader.Bad() {
			if len(l) != 0 || !isSpoilt(reader) {
				t.Fatalf("%x: %v", b, l)
			}
			continue
		}
		good++
		back, e := Bytes(l)
		if e != api.OK || !bytes.HasPrefix(b, back) || reader.Left() != len(b)-len(back) {
			t.Fatalf("%x is taken for %v", b, l)
		}
	}
	if good < 1000 || good > 19000 {
		t.Error("too few, or too many, were rosters:", good)
	}
}
