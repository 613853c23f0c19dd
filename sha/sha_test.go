package sha

import (
	"bytes"
	"crypto/sha1"
	"encoding/binary"
	"encoding/hex"
	"math"
	"strings"
	"testing"

	"signpost/api"
)

// edges are the lengths about the blocks of 64 bytes, and about the room for a length in them.
func edges() []int {
	return []int{0, 1, 54, 55, 56, 57, 62, 63, 64, 65, 118, 119, 120, 121, 127, 128, 129, 191, 192, 193, 1000, 4096}
}

func message(n int) []byte {
	b := make([]byte, n)
	for i := range b {
		b[i] = byte(i*7 + i/256)
	}
	return b
}

func TestSumKnown(t *testing.T) { // P2.1
	for in, want := range map[string]string{
		"":    "da39a3ee5e6b4b0d3255bfef95601890afd80709",
		"abc": "a9993e364706816aba3e25717850c26c9cd0d89d",
		"abcdbcdecdefdefgefghfghighijhijkijkljklmklmnlmnomnopnopq": "84983e441c3bd26ebaae4aa1f95129e5e54670f1",
		strings.Repeat("a", 1000000):                               "34aa973cd4c4daa4f61eeb2bdbad27316534016f",
	} {
		sum := Sum([]byte(in))
		if got := hex.EncodeToString(sum[:]); got != want {
			t.Errorf("%d bytes: %s, want %s", len(in), got, want)
		}
	}
	if Sum(nil) != Sum([]byte{}) {
		t.Error("nil and no bytes differ")
	}
}

func TestSumLengths(t *testing.T) { // P2.1
	for n := range 300 {
		if b := message(n); Sum(b) != api.ID(sha1.Sum(b)) {
			t.Errorf("%d bytes: %x", n, Sum(b))
		}
	}
}

func TestPad(t *testing.T) { // P2.2
	lengths := []uint64{1 << 29, 1<<61 - 1, 1 << 61, 1<<61 + 5, 1 << 63, math.MaxUint64 - 63, math.MaxUint64 - 9, math.MaxUint64 - 8, math.MaxUint64 - 7, math.MaxUint64}
	for n := range uint64(200) {
		lengths = append(lengths, n)
	}
	for _, n := range lengths {
		b := Pad(n)
		if len(b) < 9 || len(b) > 72 || (n%64+uint64(len(b)))%64 != 0 {
			t.Errorf("%d: %d bytes", n, len(b))
			continue
		}
		last := len(b) - 8
		if b[0] != 128 || len(bytes.Trim(b[1:last], "\x00")) != 0 || binary.BigEndian.Uint64(b[last:]) != n<<3 {
			t.Errorf("%d: %x", n, b)
		}
	}
	for n, want := range map[uint64]int{0: 64, 55: 9, 56: 72, 63: 65, 64: 64, math.MaxUint64: 65} {
		if got := len(Pad(n)); got != want {
			t.Errorf("%d: %d bytes, want %d", n, got, want)
		}
	}
}

func TestHash(t *testing.T) { // P2.3
	h := New()
	if h.Sum() != Sum(nil) || h.Len() != 0 {
		t.Error("a new one", h.Len())
	}
	var all []byte
	for i, piece := range []string{"a", "", "bc", strings.Repeat("d", 61), "e", strings.Repeat("f", 200)} {
		if e := h.Write([]byte(piece)); e != api.OK {
			t.Error(int(e))
		}
		all = append(all, piece...)
		for range 2 {
			if h.Sum() != Sum(all) || h.Len() != uint64(len(all)) {
				t.Errorf("piece %d: %x, %d bytes", i, h.Sum(), h.Len())
			}
		}
	}
	if e := h.Write(nil); e != api.OK || h.Sum() != Sum(all) {
		t.Error("no bytes", int(e))
	}
}

func TestClone(t *testing.T) { // P2.3
	for _, n := range edges() {
		h := New()
		h.Write(message(n))
		c := h.Clone()
		if c == h || c.Sum() != h.Sum() || c.Len() != h.Len() {
			t.Fatalf("%d bytes: not the same contents", n)
		}
		h.Write([]byte("left"))
		c.Write([]byte("on the right"))
		if h.Sum() != Sum(append(message(n), "left"...)) || c.Sum() != Sum(append(message(n), "on the right"...)) {
			t.Errorf("%d bytes: not independent", n)
		}
		if h.Len() != uint64(n+4) || c.Len() != uint64(n+12) {
			t.Errorf("%d bytes: %d, %d", n, h.Len(), c.Len())
		}
	}
}

func TestNoHash(t *testing.T) { // P2.3, rule 1
	for _, h := range []*Hash{nil, {}, new(Hash)} {
		for range 2 {
			if h.Sum() != (api.ID{}) || h.Len() != 0 || h.Clone() != nil {
				t.Error(h == nil, h.Sum(), h.Len(), h.Clone())
			}
			if e := h.Write([]byte("abc")); e != api.ErrNil {
				t.Error(h == nil, int(e))
			}
			if e := h.Write(nil); e != api.ErrNil {
				t.Error(h == nil, int(e))
			}
		}
	}
}

func TestPieces(t *testing.T) { // P2.4
	for _, n := range edges() {
		b := message(n)
		want := Sum(b)
		for _, size := range []int{1, 2, 7, 55, 56, 63, 64, 65, 128, 200} {
			h := New()
			for rest := b; len(rest) > 0; {
				piece := min(size, len(rest))
				h.Write(rest[:piece])
				rest = rest[piece:]
			}
			if h.Sum() != want || h.Len() != uint64(n) {
				t.Errorf("%d bytes by %d: %x", n, size, h.Sum())
			}
		}
	}
}

func TestArgumentsStay(t *testing.T) { // rules 4 and 8
	all := message(400)
	b := all[:100]
	before := string(all)
	h := New()
	h.Write(b)
	if Sum(b) != h.Sum() || string(all) != before {
		t.Error("an argument was written into")
	}
	want := h.Sum()
	clear(b)
	if h.Sum() != want {
		t.Error("a hash follows its caller's bytes")
	}
	id := h.Sum()
	id[0]++
	pad := Pad(3)
	clear(pad)
	if h.Sum() != want || len(Pad(3)) != 61 || Pad(3)[0] != 128 {
		t.Error("a result can be written into")
	}
}
