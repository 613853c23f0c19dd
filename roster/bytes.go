package roster

import (
	"signpost/api"
	"signpost/inst"
	"signpost/octet"
)

const countWidth = 1

// Bytes tells a roster as bytes.
func Bytes(l []api.Instance) ([]byte, api.Errno) {
	if !Good(l) {
		return nil, api.ErrArg
	}
	b := octet.Put(nil, uint64(len(l)), countWidth)
	for _, i := range l {
		// No error: all instances of a good roster are good.
		one, _ := inst.Bytes(i)
		b = append(b, one...)
	}
	return b, api.OK
}

// Read reads one.
func Read(r *octet.Reader) []api.Instance {
	var l []api.Instance
	for range r.Num(countWidth) {
		// Where there is none, a zero instance, with which the roster is not good.
		i, _ := inst.Read(r)
		l = append(l, i)
	}
	if !Good(l) {
		spoil(r)
		return nil
	}
	return l
}

// spoil makes a reader bad by a call that always fails.
func spoil(r *octet.Reader) { r.Take(-1) }
