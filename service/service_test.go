package service

import (
	"crypto/sha1"
	"math/rand"
	"strings"
	"testing"

	"signpost/api"
	"signpost/label"
)

// split is a service's name, and the three that Split tells of it.
type split struct{ s, service, proto, domain string }

// domain has a name whose text has size bytes, of at most 255.
func domain(size int) string {
	b := []byte(strings.Repeat("d", size))
	for at := 63; at < size; at += 64 {
		b[at] = '.'
	}
	return string(b)
}

// right are names of services, the edges among them.
func right() []split {
	long := strings.Repeat("s", 62)
	return []split{
		{"_http._tcp.a.b", "http", "tcp", "a.b"},
		{"_HTTP._tcp.Example.org", "HTTP", "tcp", "Example.org"},
		{"_a._udp.b", "a", "udp", "b"},
		{"_a._UDP.b.c", "a", "UDP", "b.c"},
		{"_a._TCP.b", "a", "TCP", "b"},
		{"_a._tCp.b", "a", "tCp", "b"},
		{"_a._uDP.B", "a", "uDP", "B"},
		{"__._tcp._", "_", "tcp", "_"},
		{"__a._tcp.b", "_a", "tcp", "b"},
		{"_-a._tcp.b", "-a", "tcp", "b"},
		{"_0._udp.1.2.3.4", "0", "udp", "1.2.3.4"},
		{"_tcp._tcp._tcp._tcp", "tcp", "tcp", "_tcp._tcp"},
		{"_a._tcp._b._udp.c", "a", "tcp", "_b._udp.c"},
		{"_" + long + "._tcp.b", long, "tcp", "b"},
		{"_a._tcp." + strings.Repeat("b", 63), "a", "tcp", strings.Repeat("b", 63)},
		{"_a._tcp." + domain(245), "a", "tcp", domain(245)},
		{"_" + long + "._udp." + domain(184), long, "udp", domain(184)},
	}
}

// wrong are texts that are no names of services.
func wrong() []string {
	return []string{
		"", ".", "..", "...", "a", "_a", "_a._tcp", "_tcp.b", "_a.b", "a.b", "a.b.c", "_._tcp.b", "_._udp.b", "a._tcp.b", "-a._tcp.b", "a_._tcp.b", "-_a._tcp.b",
		"_a.tcp.b", "_a._sctp.b", "_a._tcpx.b", "_a._tc.b", "_a._.b", "_a.__tcp.b", "_a._tcp_.b", "_a._tcpudp.b", "_a.-tcp.b", "_a.b._tcp.c", "_a.x._tcp", "a._a._tcp.b", "_tcp._a.b", "_a._udq.b", "_a._ucp.b", "_a._tdp.b",
		"_a._tcp.", "_a._tcp.b.", "._a._tcp.b", "_a.._tcp.b", "_a._tcp..b", "_a._tcp.-b", "_a._tcp.b-", "_a-._tcp.b", "_-._tcp.b", "_a._tcp.b c", " _a._tcp.b", "_a._tcp.b ", "_a,_tcp,b", "_a._tcp.b\x00", "_a._tcp.\x00",
		"_\xc3\xa4._tcp.b", "_a._tcp.\xff", "_a._tcp.b\u3002c", "_a._t\u0441p.b", "_\u212a._tcp.b",
		"_" + strings.Repeat("s", 63) + "._tcp.b", "_a._tcp." + strings.Repeat("b", 64), "_a._tcp." + domain(245) + "d", "_" + strings.Repeat("s", 62) + "._udp." + domain(184) + "d", "_a._tcp." + strings.Repeat("b.", 1<<19) + "b",
	}
}

// plainGood is the definition, word by word, but for that of a name.
func plainGood(s string) bool {
	l := strings.Split(s, ".")
	if !label.Good(s) || len(l) < 3 {
		return false
	}
	switch strings.ToUpper(l[1]) {
	case "_TCP", "_UDP":
		return l[0][0] == '_' && len(l[0]) >= 2
	}
	return false
}

func TestSplit(t *testing.T) { // P10.1
	for _, c := range right() {
		if a, b, d, e := Split(c.s); (split{c.s, a, b, d}) != c || e != api.OK {
			t.Errorf("%q: %q %q %q %d", c.s, a, b, d, int(e))
		}
	}
	for _, s := range wrong() {
		if a, b, d, e := Split(s); a != "" || b != "" || d != "" || e != api.ErrName {
			t.Errorf("%.300q: %.300q %q %.300q %d", s, a, b, d, int(e))
		}
	}
}

func TestGood(t *testing.T) { // P10.1
	for _, c := range right() {
		if !Good(c.s) {
			t.Errorf("%q is a service's name", c.s)
		}
	}
	for _, s := range wrong() {
		if Good(s) {
			t.Errorf("%.300q is no service's name", s)
		}
	}
}

// some builds a text of few pieces, many of which are names of services.
func some(r *rand.Rand) string {
	pieces := []string{"_", "a", "_a", "_tcp", "_UDP", "tcp", "_A", "-", ""}
	l := []string{"_a", "_tcp", "b"}
	for range r.Intn(4) {
		l[r.Intn(len(l))] = pieces[r.Intn(len(pieces))]
	}
	if r.Intn(4) == 0 {
		l = append(l, pieces[r.Intn(len(pieces))])
	}
	return strings.Join(l[r.Intn(8)/7:], ".")
}

func TestManyTexts(t *testing.T) { // P10.1, P10.2, P10.5
	r := rand.New(rand.NewSource(10))
	good := 0
	for range 50000 {
		s := some(r)
		a, b, c, e := Split(s)
		if Good(s) != plainGood(s) || Good(s) != (e == api.OK) {
			t.Fatalf("%q: %v %d", s, Good(s), int(e))
		}
		if e != api.OK {
			continue
		}
		good++
		if back, e := Join(a, b, c); back != s || e != api.OK {
			t.Fatalf("%q: %q %q %q joined are %q %d", s, a, b, c, back, int(e))
		}
	}
	if good < 1000 || good > 49000 {
		t.Error("too few, or too many, were names:", good)
	}
}

func TestJoin(t *testing.T) { // P10.2, P10.5
	for _, c := range right() {
		if s, e := Join(c.service, c.proto, c.domain); s != c.s || e != api.OK {
			t.Errorf("%q: %q %d", c.s, s, int(e))
		}
	}
	for _, c := range [][3]string{
		{"", "", ""}, {"", "tcp", "b"}, {"a", "", "b"}, {"a", "tcp", ""}, {"a", "tcp", "."}, {"a", "tcp", "b."}, {"a", "tcp", ".b"}, {"a", "tcp", "b..c"}, {"a", "tcp", "-"},
		{"a", "sctp", "b"}, {"a", "_tcp", "b"}, {"a", "tcp_", "b"}, {"a", "tcp ", "b"}, {"a-", "tcp", "b"}, {"a b", "tcp", "b"}, {"-", "tcp", "b"}, {"\xff", "tcp", "b"}, {"a", "tcp", "\xff"}, {"a", "t\u0441p", "b"},
		{"a.b", "tcp", "c"}, {"a.", "tcp", "c"}, {".", "tcp", "c"}, {"a._tcp", "tcp", "b"}, {"a._tcp.b", "tcp", "c"}, {"a._tcp.b", "udp", "c"}, {"a._udp.b", "x", "c"},
		{"a", "tcp.b", "c"}, {"a", "tcp.b._tcp", "c"}, {"a", "tcp.", "c"}, {"a", ".tcp", "c"}, {"a", "tcp._b", "c"}, {"a", "udp.tcp", "c"},
		{strings.Repeat("s", 63), "tcp", "b"}, {"a", "tcp", strings.Repeat("b", 64)}, {"a", "tcp", domain(245) + "d"}, {strings.Repeat("s", 1<<20), "tcp", "b"}, {"a", strings.Repeat("tcp", 1<<18), "b"}, {"a", "tcp", strings.Repeat("b.", 1<<19) + "b"},
	} {
		if s, e := Join(c[0], c[1], c[2]); s != "" || e != api.ErrName {
			t.Errorf("%.300q: %.300q %d", c, s, int(e))
		}
	}
}

func TestJoinIsSplitTurnedRound(t *testing.T) { // P10.2
	r := rand.New(rand.NewSource(102))
	pieces := []string{"a", "_a", "", "tcp", "UDP", "a._tcp.b", "tcp.b", "b.c", "_tcp", "-", "b._udp.c"}
	joined := 0
	for range 20000 {
		a, b, c := pieces[r.Intn(len(pieces))], pieces[r.Intn(len(pieces))], pieces[r.Intn(len(pieces))]
		want := "_" + a + "._" + b + "." + c
		// A name has three parts or more, so neither of the first two has a point if it is split in these three.
		ok := plainGood(want) && !strings.Contains(a+b, ".")
		s, e := Join(a, b, c)
		if ok && (s != want || e != api.OK) || !ok && (s != "" || e != api.ErrName) {
			t.Fatalf("%q, %q, %q: %q %d", a, b, c, s, int(e))
		}
		if ok {
			joined++
		}
	}
	if joined < 500 {
		t.Error("too few were joined:", joined)
	}
}

func TestCanon(t *testing.T) { // P10.3
	for _, c := range right() {
		if s, e := Canon(c.s); s != strings.ToLower(c.s) || e != api.OK {
			t.Errorf("%q: %q %d", c.s, s, int(e))
		}
	}
	if s, e := Canon("_HTTP._tcp.Example"); s != "_http._tcp.example" || e != api.OK {
		t.Errorf("%q %d", s, int(e))
	}
	for _, s := range wrong() {
		if c, e := Canon(s); c != "" || e != api.ErrName {
			t.Errorf("%.300q: %.300q %d", s, c, int(e))
		}
	}
}

func TestKey(t *testing.T) { // P10.3
	for _, c := range right() {
		if k, e := Key(c.s); k != api.ID(sha1.Sum([]byte(strings.ToLower(c.s)))) || e != api.OK {
			t.Errorf("%q: %x %d", c.s, k, int(e))
		}
	}
	for _, s := range wrong() {
		if k, e := Key(s); k != (api.ID{}) || e != api.ErrName {
			t.Errorf("%.300q: %x %d", s, k, int(e))
		}
	}
}

// inOtherCase turns some letters into small or capital ones.
func inOtherCase(r *rand.Rand, s string) string {
	b := []byte(s)
	for i, c := range b {
		if small := c | 0x20; 'a' <= small && small <= 'z' {
			b[i] = small ^ byte(r.Intn(2))*0x20
		}
	}
	return string(b)
}

func TestKeysOfOneName(t *testing.T) { // P10.4
	r := rand.New(rand.NewSource(104))
	keys := map[api.ID]string{}
	for _, c := range right() {
		k, _ := Key(c.s)
		for range 20 {
			s := inOtherCase(r, c.s)
			if other, e := Key(s); other != k || e != api.OK {
				t.Errorf("%q and %q: %x and %x", c.s, s, k, other)
			}
		}
		if other, ok := keys[k]; ok && other != strings.ToLower(c.s) {
			t.Errorf("%q and %q have one key", c.s, other)
		}
		keys[k] = strings.ToLower(c.s)
	}
}

func TestRoundTrip(t *testing.T) { // P10.5
	r := rand.New(rand.NewSource(105))
	for _, c := range right() {
		for range 20 {
			s := inOtherCase(r, c.s)
			a, b, d, _ := Split(s)
			if back, e := Join(a, b, d); back != s || e != api.OK {
				t.Errorf("%q: %q %d", s, back, int(e))
			}
		}
	}
}
