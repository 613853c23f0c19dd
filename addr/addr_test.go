package addr

import (
	"bytes"
	"fmt"
	"math/rand"
	"slices"
	"strings"
	"testing"

	"signpost/api"
)

// hosts and ports have the edges, and what has zeros or a full byte in each place.
func hosts() []uint32 {
	l := []uint32{0, 1, 9, 10, 99, 100, 255, 256, 0x0a000001, 0x01020304, 0x04030201, 0x80000000, 0x7fffffff, 1<<32 - 1, 1<<32 - 2}
	for shift := 0; shift < 32; shift += 8 {
		l = append(l, 255<<shift, 1<<shift, ^uint32(255<<shift))
	}
	return l
}

func ports() []uint16 {
	return []uint16{0, 1, 9, 10, 80, 99, 100, 255, 256, 999, 1000, 9999, 10000, 32767, 32768, 65534, 65535}
}

// sample has good addresses and others.
func sample() []api.Addr {
	var l []api.Addr
	for _, h := range hosts() {
		for _, p := range ports() {
			l = append(l, api.Addr{Host: h, Port: p})
		}
	}
	r := rand.New(rand.NewSource(6))
	for range 200 {
		l = append(l, api.Addr{Host: r.Uint32(), Port: uint16(r.Uint32())})
	}
	return l
}

func isGood(a api.Addr) bool { return a.Host > 0 && a.Port > 0 }

// plainText is the promise, word by word.
func plainText(a api.Addr) string {
	return fmt.Sprintf("%d.%d.%d.%d:%d", a.Host>>24, a.Host>>16&255, a.Host>>8&255, a.Host&255, a.Port)
}

func TestGood(t *testing.T) { // P6.1
	for _, a := range sample() {
		if Good(a) != isGood(a) {
			t.Errorf("%v: %v", a, Good(a))
		}
	}
	if Good(api.Addr{}) || Good(api.Addr{Host: 1}) || Good(api.Addr{Port: 1}) || !Good(api.Addr{Host: 1, Port: 1}) || !Good(api.Addr{Host: 1<<32 - 1, Port: 65535}) {
		t.Error("the edges")
	}
}

func TestText(t *testing.T) { // P6.1
	for _, a := range sample() {
		if got, want := Text(a), plainText(a); got != want {
			t.Errorf("%v: %q, want %q", a, got, want)
		}
	}
	for _, c := range []struct {
		a    api.Addr
		want string
	}{
		{api.Addr{Host: 0x0a000001, Port: 80}, "10.0.0.1:80"},
		{api.Addr{}, "0.0.0.0:0"},
		{api.Addr{Host: 1}, "0.0.0.1:0"},
		{api.Addr{Port: 1}, "0.0.0.0:1"},
		{api.Addr{Host: 1<<32 - 1, Port: 65535}, "255.255.255.255:65535"},
		{api.Addr{Host: 0x01020304, Port: 5}, "1.2.3.4:5"},
	} {
		if got := Text(c.a); got != c.want {
			t.Errorf("%v: %q, want %q", c.a, got, c.want)
		}
	}
}

func TestParse(t *testing.T) { // P6.1
	for _, c := range []struct {
		s    string
		want api.Addr
	}{
		{"10.0.0.1:80", api.Addr{Host: 0x0a000001, Port: 80}},
		{"1.2.3.4:5", api.Addr{Host: 0x01020304, Port: 5}},
		{"0.0.0.1:1", api.Addr{Host: 1, Port: 1}},
		{"1.0.0.0:10", api.Addr{Host: 1 << 24, Port: 10}},
		{"255.255.255.255:65535", api.Addr{Host: 1<<32 - 1, Port: 65535}},
		{"100.20.99.250:59999", api.Addr{Host: 100<<24 | 20<<16 | 99<<8 | 250, Port: 59999}},
	} {
		if got, e := Parse(c.s); got != c.want || e != api.OK {
			t.Errorf("%q: %v %d", c.s, got, int(e))
		}
	}
}

// wrongTexts are texts of no good address.
func wrongTexts() []string {
	l := []string{
		"", ".", ":", "...:", "....", "::", "1", "1.2.3.4", "1.2.3.4:", "1.2.3:4", "1.2:3", "1:2", ":80", "1.2.3.4.5:6", "1.2.3.4.5",
		"1.2.3.4:5:6", "1:2.3.4.5", "1.2.3:4.5", "1.2.3.4.5.6", "1.2.3.4,5", ".1.2.3.4:5", "1.2.3.4.:5", "1..2.3.4:5", "1..3.4:5", "1.2.3.4::5", "1.2.3.4:5.", "1.2.3.4:5:",
		"0.0.0.0:1", "0.0.0.0:0", "1.2.3.4:0", "0.0.0.0:65535", "255.255.255.255:0",
		"256.1.1.1:1", "1.256.1.1:1", "1.1.256.1:1", "1.1.1.256:1", "1.1.1.1:65536", "1.1.1.1:99999", "1.1.1.1:100000", "1.1.1.1:65616",
		"999.1.1.1:1", "1000.1.1.1:1", "65536.1.1.1:1", "4294967297.1.1.1:1", "18446744073709551617.1.1.1:1", "1.1.1.1:18446744073709551617", "1.1.1.1:4294967297",
		"01.2.3.4:5", "1.02.3.4:5", "1.2.03.4:5", "1.2.3.04:5", "1.2.3.4:05", "001.2.3.4:5", "1.2.3.4:00005", "1.2.3.4:000005", "00.2.3.4:5", "1.2.3.00:5", "1.2.3.4:00", "1.2.3.4:080",
		"+1.2.3.4:5", "-1.2.3.4:5", "1.+2.3.4:5", "1.2.3.-4:5", "1.2.3.4:+5", "1.2.3.4:-5", "1.2.3.-0:5", "1.2.3.4:-1",
		" 1.2.3.4:5", "1.2.3.4:5 ", "1. 2.3.4:5", "1.2.3.4 :5", "1.2.3.4: 5", "1.2.3.4:5\n", "\t1.2.3.4:5", "1.2.3.4:5\x00", "\x001.2.3.4:5",
		"0x1.2.3.4:5", "a.2.3.4:5", "1.2.3.4:a", "1.2.3.4:5e1", "1_0.2.3.4:5", "1.2.3.4:1_0", "localhost:80", "[1.2.3.4]:5", "٣.2.3.4:5", "1.2.3.4:\xff",
		strings.Repeat("1.", 1000) + "1:1", "1.2.3.4:" + strings.Repeat("1", 1000), strings.Repeat("0", 1000) + "1.2.3.4:5", strings.Repeat(".", 1000), strings.Repeat(":", 1000),
	}
	return append(l, spoilt("123.45.67.89:12345")...)
}

// spoilt are texts with one byte that is neither a digit nor what it was. A mark more is wrong as well: s has all it may have.
func spoilt(s string) []string {
	var l []string
	for at := range s {
		for b := range 256 {
			if byte(b) != s[at] && (b < '0' || b > '9') {
				changed := []byte(s)
				changed[at] = byte(b)
				l = append(l, string(changed))
			}
		}
	}
	return l
}

func TestParseWrong(t *testing.T) { // P6.1
	for _, s := range wrongTexts() {
		if a, e := Parse(s); a != (api.Addr{}) || e != api.ErrForm {
			t.Errorf("%q: %v %d", s, a, int(e))
		}
	}
}

func TestParseTakesOnlyTexts(t *testing.T) { // P6.1
	r := rand.New(rand.NewSource(61))
	good := 0
	for range 200000 {
		s := []byte("1.2.3.4:5")
		for range 1 + r.Intn(5) {
			at := r.Intn(len(s))
			s = slices.Insert(s, at, "0123456789.:"[r.Intn(12)])
			if r.Intn(2) == 0 {
				at = r.Intn(len(s))
				s = slices.Delete(s, at, at+1)
			}
		}
		a, e := Parse(string(s))
		switch {
		case e == api.OK && (!isGood(a) || plainText(a) != string(s)):
			t.Fatalf("%q is taken for %v", s, a)
		case e != api.OK && (e != api.ErrForm || a != (api.Addr{})):
			t.Fatalf("%q: %v %d", s, a, int(e))
		case e == api.OK:
			good++
		}
	}
	if good < 1000 {
		t.Error("too few were addresses:", good)
	}
}

func TestBytes(t *testing.T) { // P6.2
	for _, a := range sample() {
		want := []byte{byte(a.Host >> 24), byte(a.Host >> 16), byte(a.Host >> 8), byte(a.Host), byte(a.Port >> 8), byte(a.Port)}
		if got := Bytes(a); !bytes.Equal(got, want) {
			t.Errorf("%v: %x, want %x", a, got, want)
		}
	}
}

func TestRead(t *testing.T) { // P6.2
	for _, c := range []struct {
		b    string
		want api.Addr
	}{
		{"\x0a\x00\x00\x01\x00\x50", api.Addr{Host: 0x0a000001, Port: 80}},
		{"\x01\x02\x03\x04\x05\x06", api.Addr{Host: 0x01020304, Port: 0x0506}},
		{"\x00\x00\x00\x01\x00\x01", api.Addr{Host: 1, Port: 1}},
		{"\x80\x00\x00\x00\x01\x00", api.Addr{Host: 1 << 31, Port: 256}},
		{"\xff\xff\xff\xff\xff\xff", api.Addr{Host: 1<<32 - 1, Port: 65535}},
	} {
		if got, e := Read([]byte(c.b)); got != c.want || e != api.OK {
			t.Errorf("%x: %v %d", c.b, got, int(e))
		}
	}
}

func TestReadWrong(t *testing.T) { // P6.2
	wrong := [][]byte{
		nil, {}, {1}, {1, 2, 3, 4}, {1, 2, 3, 4, 5}, {1, 2, 3, 4, 5, 6, 7}, {1, 2, 3, 4, 5, 6, 0}, {1, 2, 3, 4, 5, 6, 1, 2, 3, 4, 5, 6},
		{0, 0, 0, 0, 5, 6}, {1, 2, 3, 4, 0, 0}, {0, 0, 0, 0, 0, 0}, {255, 255, 255, 255, 0, 0}, {0, 0, 0, 0, 255, 255},
		bytes.Repeat([]byte{1}, 5000), []byte("1.2.3.4:5"),
	}
	for _, b := range wrong {
		if a, e := Read(b); a != (api.Addr{}) || e != api.ErrForm {
			t.Errorf("%x: %v %d", b, a, int(e))
		}
	}
}

func TestReadLeavesItsArgument(t *testing.T) { // the rules
	room := []byte{1, 2, 3, 4, 5, 6, 7, 8}
	kept := slices.Clone(room)
	if a, e := Read(room[:5]); a != (api.Addr{}) || e != api.ErrForm {
		t.Errorf("five bytes with room behind them: %v %d", a, int(e))
	}
	if a, e := Read(room[:6]); a != (api.Addr{Host: 0x01020304, Port: 0x0506}) || e != api.OK {
		t.Errorf("six bytes with room behind them: %v %d", a, int(e))
	}
	if !bytes.Equal(room, kept) {
		t.Errorf("the argument or its spare room has changed: %x", room)
	}
	a := api.Addr{Host: 1, Port: 1}
	Bytes(a)[0] = 77
	if got := Bytes(a); !bytes.Equal(got, []byte{0, 0, 0, 1, 0, 1}) {
		t.Errorf("answers share memory: %x", got)
	}
}

func TestCmp(t *testing.T) { // P6.3
	rank := func(a api.Addr) uint64 { return uint64(a.Host)<<16 | uint64(a.Port) }
	l := sample()
	for _, a := range l {
		for _, b := range l {
			want := 0
			if rank(a) < rank(b) {
				want = -1
			} else if rank(a) > rank(b) {
				want = 1
			}
			if got := Cmp(a, b); got != want {
				t.Fatalf("%v and %v: %d, want %d", a, b, got, want)
			}
		}
	}
	for _, c := range []struct {
		a, b api.Addr
		want int
	}{
		{api.Addr{}, api.Addr{}, 0},
		{api.Addr{Host: 1, Port: 9}, api.Addr{Host: 2, Port: 1}, -1},
		{api.Addr{Host: 1, Port: 65535}, api.Addr{Host: 1 << 31}, -1},
		{api.Addr{Host: 1<<32 - 1}, api.Addr{Host: 1<<31 - 1, Port: 65535}, 1},
		{api.Addr{Host: 7, Port: 80}, api.Addr{Host: 7, Port: 81}, -1},
		{api.Addr{Host: 7, Port: 1 << 15}, api.Addr{Host: 7, Port: 1<<15 - 1}, 1},
	} {
		if got := Cmp(c.a, c.b); got != c.want {
			t.Errorf("%v and %v: %d", c.a, c.b, got)
		}
	}
}

func TestRoundTrip(t *testing.T) { // P6.4
	for _, a := range sample() {
		want, wantErr := a, api.OK
		if !isGood(a) {
			want, wantErr = api.Addr{}, api.ErrForm
		}
		if back, e := Parse(Text(a)); back != want || e != wantErr {
			t.Errorf("%v by its text: %v %d", a, back, int(e))
		}
		if back, e := Read(Bytes(a)); back != want || e != wantErr {
			t.Errorf("%v by its bytes: %v %d", a, back, int(e))
		}
	}
}

func TestNoTwoAlike(t *testing.T) { // P6.4
	texts, bytesOf := map[string]api.Addr{}, map[string]api.Addr{}
	for _, a := range sample() {
		if other, ok := texts[Text(a)]; ok && other != a {
			t.Errorf("%v and %v have the text %q", a, other, Text(a))
		}
		if other, ok := bytesOf[string(Bytes(a))]; ok && other != a {
			t.Errorf("%v and %v have the bytes %x", a, other, Bytes(a))
		}
		texts[Text(a)], bytesOf[string(Bytes(a))] = a, a
	}
}
