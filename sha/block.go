package sha

import (
	"math/bits"

	"signpost/api"
	"signpost/octet"
)

// words are a to e.
type words [5]uint32

func firstWords() words {
	return words{0x67452301, 0xefcdab89, 0x98badcfe, 0x10325476, 0xc3d2e1f0}
}

// schedule tells the 80 words of a block.
func schedule(block []byte) [80]uint32 {
	var w [80]uint32
	for i := range w {
		if i < blockLen/wordWidth {
			n, _ := octet.Get(block, i*wordWidth, wordWidth)
			w[i] = uint32(n)
			continue
		}
		w[i] = bits.RotateLeft32(w[i-3]^w[i-8]^w[i-14]^w[i-16], 1)
	}
	return w
}

// after tells the words once a block is processed.
func (s words) after(block []byte) words {
	a, b, c, d, e := s[0], s[1], s[2], s[3], s[4]
	round := func(i int) (f, k uint32) {
		switch {
		case i < 20:
			return b&c | ^b&d, 0x5a827999
		case i < 40:
			return b ^ c ^ d, 0x6ed9eba1
		case i < 60:
			return b&c | b&d | c&d, 0x8f1bbcdc
		}
		return b ^ c ^ d, 0xca62c1d6
	}
	for i, w := range schedule(block) {
		f, k := round(i)
		x := bits.RotateLeft32(a, 5) + f + e + w + k
		a, b, c, d, e = x, a, bits.RotateLeft32(b, 30), c, d
	}
	return words{s[0] + a, s[1] + b, s[2] + c, s[3] + d, s[4] + e}
}

func (s words) id() api.ID {
	var b []byte
	for _, w := range s {
		b = octet.Put(b, uint64(w), wordWidth)
	}
	var id api.ID
	copy(id[:], b)
	return id
}
