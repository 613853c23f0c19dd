// Package octet has numbers and texts as bytes. See shared/doc/01-octet.md.
package octet

import (
	"slices"

	"signpost/api"
)

const (
	maxWidth    = 8
	lengthWidth = 2 // of a text's length
)

func isWidth(width int) bool { return 1 <= width && width <= maxWidth }

// grown copies b, so that neither b nor its spare room is written into.
func grown(b []byte, more int) []byte {
	out := make([]byte, len(b), len(b)+more)
	copy(out, b)
	return out
}

// Put puts a number.
func Put(b []byte, n uint64, width int) []byte {
	if !isWidth(width) {
		return slices.Clone(b)
	}
	out := grown(b, width)
	for i := range width {
		out = append(out, byte(n>>(8*(width-1-i))))
	}
	return out
}

// Get tells the number that begins at a place.
func Get(b []byte, at, width int) (uint64, bool) {
	// A difference, since at+width may overflow.
	if !isWidth(width) || at < 0 || len(b)-at < width {
		return 0, false
	}
	var n uint64
	for i := range width {
		n = n<<8 | uint64(b[at+i])
	}
	return n, true
}

// Text puts a text.
func Text(b []byte, s string) ([]byte, api.Errno) {
	if len(s) > api.MaxText {
		return nil, api.ErrLong
	}
	return append(Put(b, uint64(len(s)), lengthWidth), s...), api.OK
}
