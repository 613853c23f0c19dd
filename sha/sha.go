// Package sha has SHA-1. See shared/doc/02-sha.md.
package sha

import (
	"signpost/api"
	"signpost/octet"
)

const (
	blockLen    = 64
	wordWidth   = 4
	lengthWidth = 8
)

// Sum tells a text's sum.
func Sum(b []byte) api.ID {
	h := New()
	h.absorb(b)
	return h.Sum()
}

// Pad tells what a text is padded by.
func Pad(n uint64) []byte {
	// The rest first, since n and its padding may sum up beyond 2^64.
	const full = 2*blockLen - 1 - lengthWidth
	zeros := (full - n%blockLen) % blockLen
	b := make([]byte, 1+zeros)
	b[0] = 128
	return octet.Put(b, n*8, lengthWidth)
}

// Hash is the sum of what is written.
type Hash struct {
	made   bool // tells it from a plain Hash{}
	words  words
	tail   [blockLen]byte // the length modulo blockLen tells how much of it counts
	length uint64
}

// New tells a hash of no bytes.
func New() *Hash { return &Hash{made: true, words: firstWords()} }

func (h *Hash) isMade() bool { return h != nil && h.made }

func (h *Hash) absorb(b []byte) {
	held := int(h.length % blockLen)
	h.length += uint64(len(b))
	taken := copy(h.tail[held:], b)
	if held+taken < blockLen {
		return
	}
	h.words = h.words.after(h.tail[:])
	b = b[taken:]
	for len(b) >= blockLen {
		h.words = h.words.after(b[:blockLen])
		b = b[blockLen:]
	}
	copy(h.tail[:], b)
}

// Write writes bytes.
func (h *Hash) Write(b []byte) api.Errno {
	if !h.isMade() {
		return api.ErrNil
	}
	h.absorb(b)
	return api.OK
}

// Sum tells the sum of all that was written.
func (h *Hash) Sum() api.ID {
	if !h.isMade() {
		return api.ID{}
	}
	// The padding goes into a copy: more may be written to h.
	padded := *h
	padded.absorb(Pad(h.length))
	return padded.words.id()
}

// Len tells how many bytes were written.
func (h *Hash) Len() uint64 {
	if !h.isMade() {
		return 0
	}
	return h.length
}

// Clone tells another hash of the same.
func (h *Hash) Clone() *Hash {
	if !h.isMade() {
		return nil
	}
	other := *h
	return &other
}
