package octet

import (
	"slices"

	"signpost/api"
)

// rest is what was not read yet.
type rest struct {
	unread []byte
}

func (u *rest) left() int { return len(u.unread) }

// cut tells the next bytes in place: who hands them out copies them.
func (u *rest) cut(n int) ([]byte, bool) {
	if n < 0 || n > u.left() {
		return nil, false
	}
	head := u.unread[:n]
	u.unread = u.unread[n:]
	return head, true
}

func (u *rest) number(width int) (uint64, bool) {
	n, ok := Get(u.unread, 0, width)
	if ok {
		u.unread = u.unread[width:]
	}
	return n, ok
}

func (u *rest) text(most int) (string, bool) {
	n, ok := u.number(lengthWidth)
	if !ok || int(n) > min(most, api.MaxText) {
		return "", false
	}
	b, ok := u.cut(int(n))
	return string(b), ok
}

// Reader reads bytes.
type Reader struct {
	rest
	opened bool // tells it from a plain Reader{}
	failed bool
}

// Open tells a reader of bytes.
func Open(b []byte) *Reader {
	// A copy, so that what is read does not change with the caller's bytes.
	return &Reader{rest: rest{unread: slices.Clone(b)}, opened: true}
}

func (r *Reader) isOpen() bool { return r != nil && r.opened }

func (r *Reader) fail() { *r = Reader{opened: true, failed: true} }

// Num tells the next number.
func (r *Reader) Num(width int) uint64 {
	if r.Bad() {
		return 0
	}
	n, ok := r.number(width)
	if !ok {
		r.fail()
	}
	return n
}

// Take tells the next bytes.
func (r *Reader) Take(n int) []byte {
	if r.Bad() {
		return nil
	}
	b, ok := r.cut(n)
	if !ok {
		r.fail()
	}
	return slices.Clone(b)
}

// Text tells the next text.
func (r *Reader) Text(most int) string {
	if r.Bad() {
		return ""
	}
	s, ok := r.text(most)
	if !ok {
		r.fail()
	}
	return s
}

// Left tells how many bytes are left.
func (r *Reader) Left() int {
	if !r.isOpen() {
		return 0
	}
	return r.left()
}

// Bad tells whether it is bad.
func (r *Reader) Bad() bool { return !r.isOpen() || r.failed }

// Done tells whether all was read.
func (r *Reader) Done() api.Errno {
	if !r.isOpen() {
		return api.ErrNil
	}
	if r.failed || r.left() > 0 {
		return api.ErrForm
	}
	return api.OK
}
