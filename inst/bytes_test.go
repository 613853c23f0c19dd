package inst

import (
	"bytes"
	"math/rand"
	"slices"
	"testing"

	"signpost/api"
	"signpost/octet"
)

// plainBytes are an instance's bytes, whether it is good or not, if flag stands for whether it is gone.
func plainBytes(i api.Instance, flag byte) []byte {
	b := slices.Clone(i.Publisher[:])
	for at := range 8 {
		b = append(b, byte(i.Seq>>(56-8*at)))
	}
	for at := range 8 {
		b = append(b, byte(i.Born>>(56-8*at)))
	}
	b = append(b, byte(i.Life>>24), byte(i.Life>>16), byte(i.Life>>8), byte(i.Life), flag)
	if flag == 1 {
		return b
	}
	for _, n := range []uint16{i.Priority, i.Weight, i.Port, uint16(len(i.Target))} {
		b = append(b, byte(n>>8), byte(n))
	}
	return append(b, i.Target...)
}

func encoded(i api.Instance) []byte {
	if i.Gone {
		return plainBytes(i, 1)
	}
	return plainBytes(i, 0)
}

func TestBytes(t *testing.T) { // P11.1
	for _, i := range right() {
		if b, e := Bytes(i); e != api.OK || !bytes.Equal(b, encoded(i)) {
			t.Errorf("%v: %x %d", i, b, int(e))
		}
	}
	i := api.Instance{Publisher: api.ID{0: 1, 19: 20}, Seq: 0x0102030405060708, Born: 0x1112131415161718, Life: 0x21222324, Priority: 0x3132, Weight: 0x4142, Port: 0x5152, Target: "a.b"}
	head := "\x01" + string(make([]byte, 18)) + "\x14\x01\x02\x03\x04\x05\x06\x07\x08\x11\x12\x13\x14\x15\x16\x17\x18\x21\x22\x23\x24"
	if b, e := Bytes(i); e != api.OK || string(b) != head+"\x00\x31\x32\x41\x42\x51\x52\x00\x03a.b" {
		t.Errorf("%x %d", b, int(e))
	}
	i.Gone, i.Priority, i.Weight, i.Port, i.Target = true, 0, 0, 0, ""
	if b, e := Bytes(i); e != api.OK || string(b) != head+"\x01" {
		t.Errorf("gone: %x %d", b, int(e))
	}
}

func TestBytesWrong(t *testing.T) { // P11.1
	for _, i := range wrong() {
		if b, e := Bytes(i); e != api.ErrArg || len(b) != 0 {
			t.Errorf("%.300v: %x %d", i, b, int(e))
		}
	}
}

func TestBytesAreTheirOwn(t *testing.T) { // P11.4
	seen := map[string]api.Instance{}
	for _, i := range right() {
		b, _ := Bytes(i)
		if other, there := seen[string(b)]; there && other != i {
			t.Errorf("%v and %v", i, other)
		}
		seen[string(b)] = i
		b[0]++
		if again, _ := Bytes(i); !bytes.Equal(again, encoded(i)) {
			t.Errorf("%v: answers share memory", i)
		}
	}
}

func TestRead(t *testing.T) { // P11.1, P11.4
	for _, i := range right() {
		for _, ahead := range []string{"", "\x00", "ahead of it"} {
			for _, behind := range []string{"", "\x00", "\x01", "behind it, and of more bytes than an instance that is gone has"} {
				r := octet.Open(slices.Concat([]byte(ahead), encoded(i), []byte(behind)))
				r.Take(len(ahead))
				got, ok := Read(r)
				if got != i || !ok || r.Bad() || r.Left() != len(behind) || string(r.Take(len(behind))) != behind {
					t.Errorf("%v between %q and %q: %v %v", i, ahead, behind, got, ok)
				}
			}
		}
	}
}

func TestReadInARow(t *testing.T) { // P11.1
	var b []byte
	for _, i := range right() {
		b = append(b, encoded(i)...)
	}
	r := octet.Open(b)
	for _, i := range right() {
		if got, ok := Read(r); got != i || !ok {
			t.Errorf("%v: %v %v", i, got, ok)
		}
	}
	if r.Done() != api.OK {
		t.Error(r.Left())
	}
	if got, ok := Read(r); got != (api.Instance{}) || ok || !isSpoilt(r) {
		t.Error("at its end", got, ok)
	}
}

func isSpoilt(r *octet.Reader) bool {
	return r.Bad() && r.Left() == 0 && r.Done() == api.ErrForm && r.Num(1) == 0
}

func checkNone(t *testing.T, b []byte) {
	t.Helper()
	for _, ahead := range []string{"", "ab"} {
		r := octet.Open(slices.Concat([]byte(ahead), b))
		r.Take(len(ahead))
		if got, ok := Read(r); got != (api.Instance{}) || ok || !isSpoilt(r) {
			t.Errorf("%.300x behind %q: %v %v", b, ahead, got, ok)
		}
	}
}

func TestReadCut(t *testing.T) { // P11.1
	for _, i := range []api.Instance{one(), stone(), {Life: 1, Port: 1, Target: "a"}, {Life: 1, Gone: true}, with(func(i *api.Instance) { i.Target = longName() })} {
		whole := encoded(i)
		for n := range whole {
			checkNone(t, whole[:n])
		}
	}
	whole := encoded(stone())
	if got, ok := Read(octet.Open(whole[:len(whole)-1])); ok {
		t.Error("what lies beyond the length is read", got)
	}
}

func TestReadWrong(t *testing.T) { // P11.1
	for _, i := range wrong() {
		isLife := 1 <= i.Life && i.Life <= api.MaxLife
		if len(i.Target) > 65535 || i.Gone && isLife { // no two bytes count so many; what else a stone should not have is not in its bytes
			continue
		}
		checkNone(t, encoded(i))
		checkNone(t, append(encoded(i), "behind it"...))
	}
}

func TestReadOtherFlags(t *testing.T) { // P11.1
	for flag := 2; flag < 256; flag++ {
		checkNone(t, plainBytes(one(), byte(flag)))
		checkNone(t, plainBytes(stone(), byte(flag)))
		checkNone(t, plainBytes(stone(), byte(flag))[:41])
	}
}

func TestReadOfNoReader(t *testing.T) { // P11.1, rule 1
	for _, r := range []*octet.Reader{nil, {}} {
		if i, ok := Read(r); i != (api.Instance{}) || ok || !r.Bad() || r.Done() != api.ErrNil {
			t.Error(i, ok)
		}
	}
	r := octet.Open(encoded(one()))
	r.Take(1000)
	for range 2 {
		if i, ok := Read(r); i != (api.Instance{}) || ok || !isSpoilt(r) {
			t.Error("a bad reader", i, ok)
		}
	}
}

func TestReadTakesOnlyInstances(t *testing.T) { // P11.1, P11.4
	r := rand.New(rand.NewSource(111))
	good := 0
	for range 50000 {
		b := encoded([]api.Instance{one(), stone(), random(r)}[r.Intn(3)])
		for range r.Intn(3) {
			b[r.Intn(len(b))] = byte(r.Intn(4))
		}
		reader := octet.Open(b)
		i, ok := Read(reader)
		if !ok {
			if i != (api.Instance{}) || !isSpoilt(reader) {
				t.Fatalf("%x: %v", b, i)
			}
			continue
		}
		good++
		back, e := Bytes(i)
		if e != api.OK || !Good(i) || !bytes.HasPrefix(b, back) || reader.Left() != len(b)-len(back) {
			t.Fatalf("%x is taken for %v", b, i)
		}
	}
	if good < 1000 || good > 49000 {
		t.Error("too few, or too many, were instances:", good)
	}
}
