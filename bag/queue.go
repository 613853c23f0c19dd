package bag

import (
	"iter"

	"signpost/api"
	"signpost/ring"
)

// queue is the datagrams of a bag. Its methods are in small letters, so that a bag promotes them for itself alone: by the ring's own ones, anybody could push what is too long.
type queue struct {
	ring *ring.Ring[api.Datagram] // nil only in a plain Bag{}
}

func newQueue(most int) queue { return queue{ring.New[api.Datagram](most)} }

func (q queue) push(d api.Datagram) api.Errno { return q.ring.Push(d) }

func (q queue) at(i int) (api.Datagram, bool) { return q.ring.At(i) }

func (q queue) cut(i int) (api.Datagram, bool) { return q.ring.Cut(i) }

func (q queue) count() int { return q.ring.Len() }

func (q queue) clone() queue { return queue{q.ring.Clone()} }

// bound visits the places of the datagrams that go somewhere.
func (q queue) bound(to api.Addr) iter.Seq[int] {
	return func(yield func(int) bool) {
		for i, d := range q.ring.All() {
			if d.To == to && !yield(i) {
				return
			}
		}
	}
}
