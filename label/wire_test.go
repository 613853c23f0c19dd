package label

import (
	"bytes"
	"math"
	"math/rand"
	"slices"
	"strings"
	"testing"

	"signpost/api"
)

// plainWire is the definition, word by word.
func plainWire(s string) []byte {
	var b []byte
	for _, p := range strings.Split(s, ".") {
		b = append(append(b, byte(len(p))), p...)
	}
	return append(b, 0)
}

func TestWire(t *testing.T) { // P9.3
	for _, c := range [][2]string{
		{"a", "\x01a\x00"}, {"a.bc", "\x01a\x02bc\x00"}, {"_HTTP._tcp.X", "\x05_HTTP\x04_tcp\x01X\x00"},
		{strings.Repeat("q", 63), "?" + strings.Repeat("q", 63) + "\x00"},
		{strings.Repeat("a.", 126) + "b", strings.Repeat("\x01a", 126) + "\x01b\x00"},
	} {
		if b, e := Wire(c[0]); string(b) != c[1] || e != api.OK {
			t.Errorf("%q: %q %d", c[0], b, int(e))
		}
	}
	for _, s := range right() {
		if b, e := Wire(s); !bytes.Equal(b, plainWire(s)) || e != api.OK || len(b) > api.MaxName {
			t.Errorf("%q: %q %d", s, b, int(e))
		}
	}
	if b, _ := Wire(named(253)); len(b) != api.MaxName {
		t.Error("the longest one has", len(b))
	}
	for _, s := range wrong() {
		if b, e := Wire(s); len(b) != 0 || e != api.ErrName {
			t.Errorf("%.300q: %.300q %d", s, b, int(e))
		}
	}
}

func TestUnwire(t *testing.T) { // P9.3
	for _, c := range []struct {
		b    string
		at   int
		want string
		next int
	}{
		{"\x01a\x00", 0, "a", 3},
		{"x\x01a\x02bc\x00y", 1, "a.bc", 7},
		{"\x01a\x02bc\x00", 2, "bc", 6},
		{"\x01a\x00\x00", 0, "a", 3},
		{"\x00\x01a\x00", 1, "a", 4},
		{"\x01a\x00\x01b\x00", 0, "a", 3},
		{"\x01a\x00\x01b\x00", 3, "b", 6},
		{"\x05_HTTP\x04_tcp\x01X\x00", 0, "_HTTP._tcp.X", 14},
		{"\x01a\x00-\xff\xc0", 0, "a", 3},
		{"?" + strings.Repeat("q", 63) + "\x00", 0, strings.Repeat("q", 63), 65},
		{strings.Repeat("z", 300) + "\x01a\x00", 300, "a", 303},
	} {
		if s, next, e := Unwire([]byte(c.b), c.at); s != c.want || next != c.next || e != api.OK {
			t.Errorf("%q at %d: %q %d %d", c.b, c.at, s, next, int(e))
		}
	}
}

func TestUnwireRange(t *testing.T) { // P9.3
	for _, c := range []struct {
		b  []byte
		at int
	}{
		{nil, 0}, {[]byte{}, 0}, {nil, -1}, {nil, 1}, {[]byte("\x01a\x00"), 3}, {[]byte("\x01a\x00"), 4}, {[]byte("\x01a\x00"), -1}, {[]byte("a"), 1},
		{[]byte("\x01a\x00"), math.MinInt}, {[]byte("\x01a\x00"), math.MaxInt}, {[]byte("\x01a\x00"), math.MaxInt - 254}, {[]byte{0xc0}, -1}, {[]byte{0xc0}, 1},
	} {
		if s, next, e := Unwire(c.b, c.at); s != "" || next != 0 || e != api.ErrRange {
			t.Errorf("%q at %d: %q %d %d", c.b, c.at, s, next, int(e))
		}
	}
}

func TestUnwireForm(t *testing.T) { // P9.3
	long := string(plainWire(named(253)))
	for _, b := range []string{
		"\x00", "\x01", "\x01a", "\x02a\x00", "\x01a\x01", "\x01a\x01b", "\x05ab\x00", "\x00\x01a\x00", "a",
		"\x01.\x00", "\x03a.b\x00", "\x02a.\x00", "\x02.a\x00", "\x01-\x00", "\x02-a\x00", "\x02a-\x00", "\x01 \x00", "\x01\x00\x00", "\x01\xff\x00", "\x02\xc3\xa4\x00", "\x01a\x01-\x00", "\x01a\x03b.c\x00",
		"\xc0\x00", "\x01a\xc0\x00", "\x01a\x00"[:2] + "\xc0", "\x41" + strings.Repeat("a", 65) + "\x00", "@" + strings.Repeat("a", 64) + "\x00", "\x01a@" + strings.Repeat("a", 64) + "\x00", "\xff" + strings.Repeat("a", 255) + "\x00",
		string(plainWire(named(253) + "d")), string(plainWire(strings.Repeat("a.", 127) + "a")), "\x01a" + long, long[:254],
		strings.Repeat("\x01a", 1<<20), strings.Repeat("\x01a", 127) + "\x01", strings.Repeat("\x00", 1<<20),
	} {
		if s, next, e := Unwire([]byte(b), 0); s != "" || next != 0 || e != api.ErrForm {
			t.Errorf("%.300q: %.300q %d %d", b, s, next, int(e))
		}
		if s, next, e := Unwire([]byte("\x00\x01x"+b), 3); s != "" || next != 0 || e != api.ErrForm {
			t.Errorf("%.300q behind others: %.300q %d %d", b, s, next, int(e))
		}
	}
}

func TestUnwireLeavesItsArgument(t *testing.T) { // the rules
	room := []byte("\x01a\x02bc\x00\x00")
	kept := slices.Clone(room)
	for n := range len(room) - 1 {
		if s, next, e := Unwire(room[:n], 0); s != "" || next != 0 || e == api.OK {
			t.Errorf("%d bytes with room behind them: %q %d %d", n, s, next, int(e))
		}
	}
	s, _, _ := Unwire(room, 0)
	if !bytes.Equal(room, kept) {
		t.Errorf("the argument has changed: %q", room)
	}
	clear(room)
	if s != "a.bc" {
		t.Errorf("the answer shares memory with the argument: %q", s)
	}
	b, _ := Wire("a.bc")
	clear(b[:cap(b)])
	if again, _ := Wire("a.bc"); string(again) != "\x01a\x02bc\x00" {
		t.Errorf("answers share memory: %q", again)
	}
}

func TestRoundTrip(t *testing.T) { // P9.4
	for _, s := range right() {
		b, e := Wire(s)
		if e != api.OK {
			t.Fatalf("%q: %d", s, int(e))
		}
		for _, head := range []string{"", "x", "\x00", "\x01", "\xff\xff", strings.Repeat("\x07", 400)} {
			for _, tail := range []string{"", "y", "\x00", "\x01z\x00", strings.Repeat("\xc0", 400)} {
				all := []byte(head + string(b) + tail)
				if back, next, e := Unwire(all, len(head)); back != s || next != len(head)+len(b) || e != api.OK {
					t.Errorf("%q between %.9q and %.9q: %q %d %d", s, head, tail, back, next, int(e))
				}
			}
		}
	}
}

func TestUnwireTakesOnlyNames(t *testing.T) { // P9.3, P9.4
	r := rand.New(rand.NewSource(94))
	good := 0
	for range 300000 {
		b := make([]byte, 1+r.Intn(8))
		for i := range b {
			b[i] = "\x00\x00\x01\x01\x01\x02\xc0aaB0_-."[r.Intn(14)]
		}
		at := r.Intn(len(b))
		s, next, e := Unwire(b, at)
		if e == api.OK {
			good++
			if !plainGood(s) || next > len(b) || !bytes.Equal(b[at:next], plainWire(s)) {
				t.Fatalf("%q at %d is taken for %q to %d", b, at, s, next)
			}
			continue
		}
		if s != "" || next != 0 || e != api.ErrForm || beginsWithName(b[at:]) {
			t.Fatalf("%q at %d: %q %d %d", b, at, s, next, int(e))
		}
	}
	if good < 1000 {
		t.Error("too few were names:", good)
	}
}

// beginsWithName seeks among all pieces from the start one that is the bytes of a name.
func beginsWithName(b []byte) bool {
	for n := range len(b) + 1 {
		var parts []string
		for at := 0; at < n && int(b[at]) < n-at; at += 1 + int(b[at]) {
			parts = append(parts, string(b[at+1:at+1+int(b[at])]))
		}
		if n > 0 && len(parts) > 1 {
			s := strings.Join(parts[:len(parts)-1], ".")
			if plainGood(s) && bytes.Equal(plainWire(s), b[:n]) {
				return true
			}
		}
	}
	return false
}
