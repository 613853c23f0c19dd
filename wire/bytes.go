package wire

import (
	"slices"

	"signpost/api"
	"signpost/contact"
	"signpost/octet"
	"signpost/roster"
)

const (
	version      = 1
	versionWidth = 1
	kindWidth    = 1
	txnWidth     = 4
)

func hasKey(kind int) bool { return kind != api.KindPing && kind != api.KindPong }

// Encode tells it as bytes.
func Encode(m api.Message) ([]byte, api.Errno) {
	if !Good(m) {
		return nil, api.ErrArg
	}
	b := octet.Put(nil, version, versionWidth)
	b = octet.Put(b, uint64(m.Kind), kindWidth)
	b = octet.Put(b, uint64(m.Txn), txnWidth)
	b = append(b, m.From[:]...)
	if hasKey(m.Kind) {
		b = append(b, m.Key[:]...)
	}
	return slices.Concat(b, listBytes(m)), api.OK
}

// listBytes tells the list that is at a message's end, if its kind has one. No errors: the lists of a good message are good.
func listBytes(m api.Message) []byte {
	var b []byte
	switch m.Kind {
	case api.KindNodes:
		b, _ = contact.List(m.Contacts)
	case api.KindStore, api.KindFound:
		b, _ = roster.Bytes(m.Roster)
	}
	return b
}

// Decode tells the message of bytes.
func Decode(b []byte) (api.Message, api.Errno) {
	r := octet.Open(b)
	if r.Num(versionWidth) != version {
		return api.Message{}, api.ErrForm
	}
	m := next(r)
	if r.Done() != api.OK || !Good(m) {
		return api.Message{}, api.ErrForm
	}
	return m, api.OK
}

// next reads what follows the version. Where there is no message, it need not be good, or the reader is bad.
func next(r *octet.Reader) api.Message {
	var m api.Message
	number, take := r.Num, r.Take
	m.Kind = int(number(kindWidth))
	m.Txn = uint32(number(txnWidth))
	m.From = nextID(take)
	if hasKey(m.Kind) {
		m.Key = nextID(take)
	}
	switch m.Kind {
	case api.KindNodes:
		m.Contacts = contact.ReadList(r)
	case api.KindStore, api.KindFound:
		m.Roster = roster.Read(r)
	}
	return m
}

func nextID(take func(int) []byte) api.ID {
	var id api.ID
	copy(id[:], take(api.IDLen))
	return id
}
