package label

import (
	"strings"

	"signpost/api"
)

// Wire tells a name's bytes.
func Wire(s string) ([]byte, api.Errno) {
	if !Good(s) {
		return nil, api.ErrName
	}
	b := make([]byte, 0, len(s)+extra)
	for p := range between(s) {
		b = append(b, byte(len(p)))
		b = append(b, p...)
	}
	return append(b, 0), api.OK
}

// Unwire tells the name that stands at a place.
func Unwire(b []byte, at int) (string, int, api.Errno) {
	if at < 0 || at >= len(b) {
		return "", 0, api.ErrRange
	}
	parts, size, ok := read(b[at:][:min(len(b)-at, api.MaxName)])
	s := strings.Join(parts, point)
	if !ok || !Good(s) {
		return "", 0, api.ErrForm
	}
	return s, at + size, api.OK
}

// read tells the parts that b begins with, and how many bytes they have with the zero behind them.
func read(b []byte) (parts []string, size int, ok bool) {
	for size < len(b) && b[size] != 0 {
		from := size + 1
		size = from + int(b[size])
		if size > len(b) {
			return nil, 0, false
		}
		p := string(b[from:size])
		// Not left to Good: a point within p would divide it.
		if !Part(p) {
			return nil, 0, false
		}
		parts = append(parts, p)
	}
	return parts, size + 1, size < len(b)
}
