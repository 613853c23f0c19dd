package ident

import (
	"math/bits"

	"signpost/api"
)

const (
	byteBits = 8
	idBits   = byteBits * api.IDLen
)

func isPlace(i int) bool { return 0 <= i && i < idBits }

// mask has bit i of an id, in the byte where it stands.
func mask(i int) byte { return 1 << (byteBits - 1 - i%byteBits) }

// Bit tells a bit.
func Bit(id api.ID, i int) int {
	if !isPlace(i) || id[i/byteBits]&mask(i) == 0 {
		return 0
	}
	return 1
}

// With tells an id with a bit turned.
func With(id api.ID, i, bit int) api.ID {
	if !isPlace(i) {
		return id
	}
	if bit == 0 {
		id[i/byteBits] &^= mask(i)
	} else {
		id[i/byteBits] |= mask(i)
	}
	return id
}

// Prefix tells how many bits two ids have in common.
func Prefix(a, b api.ID) int {
	for i := range api.IDLen {
		if a[i] != b[i] {
			return byteBits*i + bits.LeadingZeros8(a[i]^b[i])
		}
	}
	return idBits
}
