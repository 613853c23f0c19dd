package inst

import (
	"signpost/api"
	"signpost/octet"
)

const (
	seqWidth  = 8
	tickWidth = 8
	lifeWidth = 4
	goneWidth = 1
	partWidth = 2 // of a priority, a weight and a port
)

// Bytes tells it as bytes.
func Bytes(i api.Instance) ([]byte, api.Errno) {
	if !Good(i) {
		return nil, api.ErrArg
	}
	b := i.Publisher[:]
	put := func(n uint64, width int) { b = octet.Put(b, n, width) }
	put(i.Seq, seqWidth)
	put(i.Born, tickWidth)
	put(uint64(i.Life), lifeWidth)
	put(flag(i.Gone), goneWidth)
	if i.Gone {
		return b, api.OK
	}
	put(uint64(i.Priority), partWidth)
	put(uint64(i.Weight), partWidth)
	put(uint64(i.Port), partWidth)
	return octet.Text(b, i.Target)
}

// next reads what may be an instance. Whatever is missing, and a flag that is none, leaves zeros with which it is not good.
func next(r *octet.Reader) api.Instance {
	var i api.Instance
	copy(i.Publisher[:], r.Take(api.IDLen))
	i.Seq = r.Num(seqWidth)
	i.Born = r.Num(tickWidth)
	i.Life = uint32(r.Num(lifeWidth))
	switch r.Num(goneWidth) {
	case flag(true):
		i.Gone = true
	case flag(false):
		i.Priority = uint16(r.Num(partWidth))
		i.Weight = uint16(r.Num(partWidth))
		i.Port = uint16(r.Num(partWidth))
		i.Target = r.Text(api.MaxText)
	}
	return i
}

// Read reads one.
func Read(r *octet.Reader) (api.Instance, bool) {
	i := next(r)
	if !Good(i) {
		spoil(r)
		return api.Instance{}, false
	}
	return i, true
}

// spoil makes a reader bad by a call that always fails.
func spoil(r *octet.Reader) { r.Take(-1) }
