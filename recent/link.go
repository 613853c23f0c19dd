package recent

// link is a key between those seen just ahead of it and just behind it; the ends of the chain are a link too, so that none has to be asked for.
type link[K comparable] struct {
	key          K
	older, newer *link[K]
}

func newEnds[K comparable]() *link[K] {
	ends := &link[K]{}
	ends.older, ends.newer = ends, ends
	return ends
}

// hang makes a link the newest one.
func (x *link[K]) hang(ends *link[K]) {
	x.older, x.newer = ends.older, ends
	x.older.newer, x.newer.older = x, x
}

func (x *link[K]) unhang() {
	x.older.newer, x.newer.older = x.newer, x.older
}
