package label

import (
	"math/rand"
	"regexp"
	"slices"
	"strings"
	"testing"
)

var partForm = regexp.MustCompile(`\A[a-zA-Z0-9_]([a-zA-Z0-9_-]{0,61}[a-zA-Z0-9_])?\z`)

// plainPart is the definition, word by word.
func plainPart(s string) bool { return partForm.MatchString(s) }

// plainGood asks for the length of the bytes, not of the text.
func plainGood(s string) bool {
	size := 1
	for _, p := range strings.Split(s, ".") {
		if !plainPart(p) {
			return false
		}
		size += 1 + len(p)
	}
	return size <= 255
}

// named has a name whose text has size bytes (no multiple of 64), of parts that are as long as they may be.
func named(size int) string {
	b := make([]byte, size)
	for i := range b {
		b[i] = "aB0_z"[i%5]
		if i%64 == 63 {
			b[i] = '.'
		}
	}
	return string(b)
}

// right are names, the edges among them.
func right() []string {
	l := []string{
		"a", "Z", "0", "_", "__", "a-b", "a--b", "_-_", "0-9", "a.bc", "A.BC", "a.b.c.d", "x.a.BC", "_http._tcp.Example.org", "127.0.0.1", "1",
		strings.Repeat("a", 63), strings.Repeat("a", 62), "a" + strings.Repeat("-", 61) + "a", strings.Repeat("a", 63) + ".b", "a." + strings.Repeat("Q", 63),
		strings.Repeat("a.", 126) + "a", strings.Repeat("a.", 125) + "aa", strings.Repeat("a.", 125) + "a",
		named(253), named(252), named(251), named(129), named(127),
	}
	r := rand.New(rand.NewSource(9))
	for range 60 {
		parts := make([]string, 1+r.Intn(4))
		for i := range parts {
			parts[i] = strings.Repeat(string("abAB01_"[r.Intn(7)]), 1+r.Intn(3))
		}
		l = append(l, strings.Join(parts, "."))
	}
	return l
}

// wrong are texts that are no names.
func wrong() []string {
	return []string{
		"", ".", "..", "a.", ".a", "a..b", "a.b.", ".a.b", "a b", " a", "a ", "a.-b", "a-.b", "-", "--", "-a", "a-", "a.-", "-.a",
		"a,b", "a/b", "a:b", "a@b", "a[b", "a`b", "a{b", "a+b", "a*", "*.a", "a\x00b", "\x00", "a\n", "\na", "a\\.b", "a'b", `"a"`,
		"\xe4", "ä.de", "a.\u00df", "\u0430", "\uff41", "\u212a", "a\u3002b", "a\xff", "\x80", "\xc0\xaf", "a\x7f", "\u0661",
		strings.Repeat("a", 64), strings.Repeat("a", 65), "b." + strings.Repeat("a", 64), strings.Repeat("a", 64) + ".b", strings.Repeat("a", 256), strings.Repeat("a", 319),
		named(253) + "d", named(253) + "dd", named(253) + ".", "." + named(252), strings.Repeat("a.", 126) + "aa", strings.Repeat("a.", 127) + "a", strings.Repeat("a.", 127), strings.Repeat("a.", 5000) + "a", strings.Repeat(".", 5000),
	}
}

func TestSampleIsWhatItSays(t *testing.T) {
	for _, s := range right() {
		if !plainGood(s) {
			t.Errorf("%q is no name", s)
		}
	}
	for _, s := range wrong() {
		if plainGood(s) {
			t.Errorf("%.300q is a name", s)
		}
	}
}

func TestPart(t *testing.T) { // P9.1
	for b := range 256 {
		c := string([]byte{byte(b)})
		for _, s := range []string{c, c + "a", "a" + c, "a" + c + "a", c + c + c, "aa" + c + "aa", "_" + c + "0"} {
			if Part(s) != plainPart(s) {
				t.Errorf("%q: %v", s, Part(s))
			}
		}
	}
	for size := range 300 {
		if s := strings.Repeat("a", size); Part(s) != (1 <= size && size <= 63) {
			t.Errorf("%d bytes: %v", size, Part(s))
		}
	}
	for _, s := range append(right(), wrong()...) {
		if Part(s) != plainPart(s) {
			t.Errorf("%.300q: %v", s, Part(s))
		}
	}
	for _, s := range []string{"a", "_tcp", "a-b", "0", "_", "A_0-z", strings.Repeat("Z", 63)} {
		if !Part(s) {
			t.Errorf("%q is a part", s)
		}
	}
	for _, s := range []string{"", "-", "--", "-a", "a-", "-a-", "a.b", ".", "a b", "ä", strings.Repeat("a", 64), strings.Repeat("a", 62) + "-"} {
		if Part(s) {
			t.Errorf("%q is no part", s)
		}
	}
}

func TestGood(t *testing.T) { // P9.1
	for _, s := range right() {
		if !Good(s) {
			t.Errorf("%q is a name", s)
		}
	}
	for _, s := range wrong() {
		if Good(s) {
			t.Errorf("%.300q is no name", s)
		}
	}
	r := rand.New(rand.NewSource(91))
	good := 0
	for range 50000 {
		s := make([]byte, r.Intn(9))
		for i := range s {
			s[i] = "aZ5_-..a"[r.Intn(8)]
		}
		if Good(string(s)) != plainGood(string(s)) {
			t.Fatalf("%q: %v", s, Good(string(s)))
		}
		if Good(string(s)) {
			good++
		}
	}
	if good < 1000 || good > 49000 {
		t.Error("too few, or too many, were names:", good)
	}
}

func TestParts(t *testing.T) { // P9.1
	for _, c := range []struct {
		s    string
		want []string
	}{
		{"", []string{""}}, {"a", []string{"a"}}, {"a.bc", []string{"a", "bc"}}, {".", []string{"", ""}}, {"..", []string{"", "", ""}},
		{"a.", []string{"a", ""}}, {".a", []string{"", "a"}}, {"a..b", []string{"a", "", "b"}}, {"A.b.A.b", []string{"A", "b", "A", "b"}},
		{"-x .y\x00z.\xff", []string{"-x ", "y\x00z", "\xff"}}, {"a\u3002b", []string{"a\u3002b"}},
	} {
		if got := Parts(c.s); !slices.Equal(got, c.want) {
			t.Errorf("%q: %q", c.s, got)
		}
	}
	for _, s := range append(right(), wrong()...) {
		if got := Parts(s); !slices.Equal(got, strings.Split(s, ".")) {
			t.Errorf("%.300q: %.300q", s, got)
		}
	}
	first := Parts("a.b")
	first[0] = "c"
	if got := Parts("a.b"); !slices.Equal(got, []string{"a", "b"}) {
		t.Errorf("answers share memory: %q", got)
	}
}

func TestFold(t *testing.T) { // P9.1
	for b := range 256 {
		want := byte(b)
		if at := strings.IndexByte("ABCDEFGHIJKLMNOPQRSTUVWXYZ", want); at >= 0 {
			want = "abcdefghijklmnopqrstuvwxyz"[at]
		}
		if got := Fold(string([]byte{'X', byte(b), 'y'})); got != string([]byte{'x', want, 'y'}) {
			t.Errorf("byte %d: %q", b, got)
		}
	}
	for _, c := range [][2]string{
		{"", ""}, {"a", "a"}, {"_HTTP._tcp.Example", "_http._tcp.example"}, {"A..B.", "a..b."}, {"@AZ[`az{", "@az[`az{"},
		{"\u00c4\u00e4", "\u00c4\u00e4"}, {"\u212aK", "\u212ak"}, {"\u0130I", "\u0130i"}, {"\xffA\xc3", "\xffa\xc3"}, {"\ufffdB", "\ufffdb"},
		{strings.Repeat("Ab", 5000), strings.Repeat("ab", 5000)},
	} {
		if got := Fold(c[0]); got != c[1] {
			t.Errorf("%.300q: %.300q", c[0], got)
		}
	}
}

func TestSame(t *testing.T) { // P9.1
	for _, c := range []struct {
		a, b string
		want bool
	}{
		{"", "", true}, {"a", "A", true}, {"a.BC", "A.bc", true}, {"-x..", "-X..", true}, {"\xff", "\xff", true}, {"aZ", "Az", true},
		{"a", "b", false}, {"a", "", false}, {"a", "a.", false}, {"a", "aa", false}, {"[", "{", false}, {"@", "`", false}, {"-", "\r", false}, {"_", "\x7f", false},
		{"k", "\u212a", false}, {"s", "\u017f", false}, {"\u00e4", "\u00c4", false}, {"\xff", "\xfe", false}, {"\xff", "\ufffd", false},
	} {
		if Same(c.a, c.b) != c.want || Same(c.b, c.a) != c.want {
			t.Errorf("%q and %q: %v", c.a, c.b, !c.want)
		}
	}
	for _, s := range append(right(), wrong()...) {
		if !Same(s, s) || !Same(s, Fold(s)) || Same(s, s+"a") {
			t.Errorf("%.300q", s)
		}
	}
}

// plainUnder compares from the end of the texts; before a zone that does not begin the name stands a point.
func plainUnder(s, zone string) bool {
	if !plainGood(s) || !plainGood(zone) {
		return false
	}
	return strings.HasSuffix("."+strings.ToLower(s), "."+strings.ToLower(zone))
}

func TestUnder(t *testing.T) { // P9.2, P9.5
	for _, c := range []struct {
		s, zone string
		want    bool
	}{
		{"x.a.BC", "A.bc", true}, {"x.A.b", "a.B", true}, {"a", "A", true}, {"y.x.a.b", "a.b", true}, {"a.b.a.b", "a.b", true}, {"a.b", "b", true},
		{"xa.b", "a.b", false}, {"b", "a.b", false}, {"a.b", "a", false}, {"a.b.c", "a.b", false}, {"a.c", "a.b", false}, {"a-b", "b", false}, {"_b", "b", false}, {"a.b.c", "a.c", false},
		{"", "", false}, {"a", "", false}, {"", "a", false}, {"a.", "a.", false}, {"a.b", ".b", false}, {"a.b", ".", false}, {".b", "b", false}, {"a..b", "b", false}, {"-.b", "b", false}, {"x.\xff", "\xff", false}, {"a b.c", "c", false},
		{strings.Repeat("a", 64) + ".b", "b", false}, {named(253) + "d", "d", false}, {"b.a", "-", false},
	} {
		if Under(c.s, c.zone) != c.want {
			t.Errorf("%.300q under %.300q: %v", c.s, c.zone, !c.want)
		}
	}
	for _, a := range append(right(), wrong()...) {
		if Under(a, a) != plainGood(a) {
			t.Errorf("%.300q under itself: %v", a, Under(a, a))
		}
		for _, b := range append(right(), wrong()...) {
			if Under(a, b) != plainUnder(a, b) {
				t.Errorf("%.300q under %.300q: %v", a, b, Under(a, b))
			}
		}
	}
}

func TestUnderPassesOn(t *testing.T) { // P9.5
	l := []string{"a", "b", "A"}
	for _, s := range slices.Clone(l) {
		for _, last := range []string{"a", "B", "a.b", "b.A"} {
			l = append(l, s+"."+last)
		}
	}
	chains := 0
	for _, a := range l {
		for _, b := range l {
			for _, c := range l {
				if Under(a, b) && Under(b, c) && a != b && b != c {
					chains++
					if !Under(a, c) {
						t.Errorf("%q, %q, %q", a, b, c)
					}
				}
			}
		}
	}
	if chains < 50 {
		t.Error("too few:", chains)
	}
}
