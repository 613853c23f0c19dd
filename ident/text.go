package ident

import (
	"strings"

	"signpost/api"
)

const (
	digits  = "0123456789abcdef"
	textLen = 2 * api.IDLen
)

// Text tells an id as a text.
func Text(id api.ID) string {
	out := make([]byte, 0, textLen)
	for _, b := range id {
		out = append(out, digits[b>>4], digits[b&15])
	}
	return string(out)
}

// Parse tells the id of a text.
func Parse(s string) (api.ID, api.Errno) {
	if len(s) != textLen {
		return api.ID{}, api.ErrForm
	}
	var id api.ID
	for i := range textLen {
		value := strings.IndexByte(digits, s[i])
		if value < 0 {
			return api.ID{}, api.ErrForm
		}
		id[i/2] = id[i/2]<<4 | byte(value)
	}
	return id, api.OK
}
