package contact

import (
	"slices"

	"signpost/api"
	"signpost/metric"
	"signpost/octet"
)

func allGood(l []api.Contact) bool {
	return !slices.ContainsFunc(l, func(c api.Contact) bool { return !Good(c) })
}

// isGoodList asks for the length first, so that a long list is refused without sorting it.
func isGoodList(l []api.Contact) bool {
	return len(l) <= api.MaxK && allGood(l) && len(Sort(api.ID{}, l)) == len(l)
}

// List tells a list as bytes.
func List(l []api.Contact) ([]byte, api.Errno) {
	if !isGoodList(l) {
		return nil, api.ErrArg
	}
	b := octet.Put(nil, uint64(len(l)), countWidth)
	for _, c := range l {
		b = append(b, Bytes(c)...)
	}
	return b, api.OK
}

// ReadList reads a list.
func ReadList(r *octet.Reader) []api.Contact {
	var l []api.Contact
	for range r.Num(countWidth) {
		l = append(l, next(r))
	}
	if !isGoodList(l) {
		spoil(r)
		return nil
	}
	return l
}

// spoil makes a reader bad by a call that always fails.
func spoil(r *octet.Reader) { r.Take(-1) }

// Sort tells contacts, the nearest one first.
func Sort(t api.ID, l []api.Contact) []api.Contact {
	out := slices.Clone(l)
	// Stable, so that the first one of l stays ahead of others with its ID.
	slices.SortStableFunc(out, func(a, b api.Contact) int { return metric.Cmp(t, a.ID, b.ID) })
	return slices.CompactFunc(out, func(a, b api.Contact) bool { return a.ID == b.ID })
}

func hasID(id api.ID) func(api.Contact) bool {
	return func(c api.Contact) bool { return c.ID == id }
}

// Find tells a contact's place.
func Find(l []api.Contact, id api.ID) int { return slices.IndexFunc(l, hasID(id)) }

// Without tells a list without a contact.
func Without(l []api.Contact, id api.ID) []api.Contact {
	return slices.DeleteFunc(slices.Clone(l), hasID(id))
}
