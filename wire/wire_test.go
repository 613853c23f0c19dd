package wire

import (
	"fmt"
	"math"
	"math/rand"
	"reflect"
	"slices"
	"strings"
	"testing"

	"signpost/api"
)

// told is a message in words, and not too many of them.
func told(m api.Message) string {
	s := fmt.Sprint(m)
	return s[:min(len(s), 400)]
}

// kinds are the nine ones, and numbers that are none.
func kinds() []int {
	out := []int{math.MinInt, math.MinInt32, -256, -2, -1, 10, 11, 255, 256, 257, 260, 1 << 16, 1<<32 + 1, math.MaxInt}
	for kind := range 10 {
		out = append(out, kind)
	}
	return out
}

func isNine(kind int) bool { return 1 <= kind && kind <= 9 }

func node(n int) api.Contact {
	return api.Contact{ID: api.ID{byte(n), 3, 19: byte(n >> 8)}, Addr: api.Addr{Host: 1 + uint32(n), Port: 80}}
}

func nodes(n int) []api.Contact {
	var l []api.Contact
	for at := range n {
		l = append(l, node(at))
	}
	return l
}

func served(n int) api.Instance {
	return api.Instance{Publisher: api.ID{byte(n), 1}, Seq: 2 + uint64(n), Born: 3, Life: 4, Priority: 6, Weight: 7, Port: 5, Target: "a.bc"}
}

func stone(n int) api.Instance {
	return api.Instance{Publisher: api.ID{byte(n), 1}, Seq: 9, Born: 3, Life: 4, Gone: true}
}

func served16() []api.Instance {
	var l []api.Instance
	for at := range 16 {
		l = append(l, served(at))
		l[at].Target = strings.Repeat("a.", 126) + "a"
	}
	return l
}

// rights are messages that are good, each unlike all others.
func rights() []api.Message {
	from, key := api.ID{9, 19: 7}, api.ID{3, 19: 8}
	return []api.Message{
		{Kind: api.KindPing},
		{Kind: api.KindPing, Txn: 1},
		{Kind: api.KindPing, Txn: math.MaxUint32, From: from},
		{Kind: api.KindPong, Txn: 1 << 31, From: from},
		{Kind: api.KindPong, From: from},
		{Kind: api.KindFindNode, Txn: 258, From: from, Key: key},
		{Kind: api.KindFindNode, Txn: 258, From: key, Key: from},
		{Kind: api.KindFindNode},
		{Kind: api.KindFindValue, Txn: 258, From: from, Key: key},
		{Kind: api.KindFindValue, Txn: 259, From: from, Key: key},
		{Kind: api.KindStore, Txn: 4, From: from, Key: key, Roster: []api.Instance{served(1)}},
		{Kind: api.KindStore, Roster: []api.Instance{stone(0)}},
		{Kind: api.KindStore, Txn: 5, Roster: served16()},
		{Kind: api.KindFound, Txn: 4, From: from, Key: key, Roster: []api.Instance{served(1), stone(2), served(3)}},
		{Kind: api.KindFound, Txn: 5, Key: key, Roster: served16()},
		{Kind: api.KindNodes},
		{Kind: api.KindNodes, Txn: 6, From: from, Key: key},
		{Kind: api.KindNodes, Txn: 6, From: from, Key: key, Contacts: nodes(1)},
		{Kind: api.KindNodes, Txn: 6, From: from, Key: key, Contacts: []api.Contact{node(5), node(2), node(4)}},
		{Kind: api.KindNodes, Txn: 6, From: from, Key: key, Contacts: []api.Contact{node(5), node(4), node(2)}},
		{Kind: api.KindNodes, Txn: 7, From: from, Key: key, Contacts: nodes(64)},
		{Kind: api.KindStored, Txn: 7, From: from, Key: key},
		{Kind: api.KindStored, From: from},
		{Kind: api.KindRefused, Txn: 7, From: from, Key: key},
		{Kind: api.KindRefused},
	}
}

// wrongs are messages that are not good.
func wrongs() []api.Message {
	last := api.ID{19: 1}
	bad := served(1)
	bad.Port = 0
	var out []api.Message
	for _, kind := range kinds() {
		if !isNine(kind) {
			out = append(out, api.Message{Kind: kind}, api.Message{Kind: kind, Txn: 1, Roster: []api.Instance{served(1)}}, api.Message{Kind: kind, Contacts: nodes(1)})
			continue
		}
		if kind == api.KindPing || kind == api.KindPong {
			out = append(out, api.Message{Kind: kind, Key: last}, api.Message{Kind: kind, Txn: 3, Key: api.ID{128}})
		}
		if kind != api.KindNodes {
			out = append(out, api.Message{Kind: kind, Contacts: nodes(1)}, api.Message{Kind: kind, Contacts: nodes(1), Roster: []api.Instance{served(1)}})
		}
		if kind != api.KindStore && kind != api.KindFound {
			out = append(out, api.Message{Kind: kind, Roster: []api.Instance{served(1)}})
			continue
		}
		for _, l := range [][]api.Instance{nil, {}, {bad}, {served(1), served(1)}, {served(2), served(1)}, {served(1), bad}, append(served16(), served(16)), {{}}} {
			out = append(out, api.Message{Kind: kind, Key: last, Roster: l})
		}
	}
	for _, l := range [][]api.Contact{{{}}, {node(1), {}}, {node(1), node(1)}, {node(1), node(2), {ID: node(1).ID, Addr: node(3).Addr}}, nodes(65), {{ID: last, Addr: api.Addr{Host: 1}}}, {{ID: last, Addr: api.Addr{Port: 1}}}} {
		out = append(out, api.Message{Kind: api.KindNodes, Key: last, Contacts: l})
	}
	return append(out, api.Message{Kind: api.KindNodes, Contacts: nodes(1), Roster: []api.Instance{served(1)}})
}

func TestGood(t *testing.T) { // P14.1
	seen := map[int]bool{}
	for _, m := range rights() {
		if !Good(m) {
			t.Error(told(m))
		}
		seen[m.Kind] = true
		// A list that is there, and empty, is as good as none.
		if m.Contacts == nil {
			m.Contacts = []api.Contact{}
		}
		if m.Roster == nil {
			m.Roster = []api.Instance{}
		}
		if !Good(m) {
			t.Error("with an empty list:", told(m))
		}
	}
	if len(seen) != 9 {
		t.Error("kinds:", seen)
	}
}

func TestGoodWrong(t *testing.T) { // P14.1
	for _, m := range append(wrongs(), api.Message{}) {
		if Good(m) {
			t.Error(told(m))
		}
	}
}

func TestGoodReadsNoSpareRoom(t *testing.T) { // P14.1, rule 8
	l := append(nodes(1), node(1))
	if !Good(api.Message{Kind: api.KindNodes, Contacts: l[:1]}) || !Good(api.Message{Kind: api.KindPing, Contacts: l[:0]}) {
		t.Error("contacts")
	}
	i := []api.Instance{served(1), served(1)}
	if !Good(api.Message{Kind: api.KindStore, Roster: i[:1]}) || Good(api.Message{Kind: api.KindStore, Roster: i[:0]}) {
		t.Error("a roster")
	}
}

func TestRequest(t *testing.T) { // P14.3
	asks := []int{1, 2, 3, 4}
	for _, kind := range kinds() {
		if Request(kind) != slices.Contains(asks, kind) {
			t.Error(kind, Request(kind))
		}
	}
	for _, kind := range []int{api.KindPing, api.KindFindNode, api.KindFindValue, api.KindStore} {
		if !Request(kind) {
			t.Error(kind)
		}
	}
}

func TestAnswers(t *testing.T) { // P14.3
	pairs := [][2]int{
		{api.KindPing, api.KindPong},
		{api.KindFindNode, api.KindNodes},
		{api.KindFindValue, api.KindNodes},
		{api.KindFindValue, api.KindFound},
		{api.KindStore, api.KindStored},
		{api.KindStore, api.KindRefused},
	}
	for _, request := range kinds() {
		for _, kind := range kinds() {
			if want := slices.Contains(pairs, [2]int{request, kind}); Answers(request, kind) != want {
				t.Error(request, kind, !want)
			}
		}
	}
}

// others are messages that differ from m in one thing.
func others(m api.Message) []api.Message {
	list := []api.Message{m, m, m, m, m, m, m, m, m}
	list[0].Kind++
	list[1].Txn++
	list[2].From[19]++
	list[3].Key[0]++
	list[4].Contacts = append(slices.Clone(m.Contacts), node(77))
	list[5].Roster = append(slices.Clone(m.Roster), served(77))
	list[6].From[0]++
	list[7].Key[19]++
	list[8].Kind += 256
	if len(m.Contacts) > 0 {
		x, y := m, m
		x.Contacts = slices.Clone(m.Contacts)
		x.Contacts[len(x.Contacts)-1].Addr.Port++
		y.Contacts = m.Contacts[:len(m.Contacts)-1]
		list = append(list, x, y)
	}
	if len(m.Roster) > 0 {
		x, y := m, m
		x.Roster = slices.Clone(m.Roster)
		x.Roster[len(x.Roster)-1].Target += "x"
		y.Roster = m.Roster[:len(m.Roster)-1]
		list = append(list, x, y)
	}
	if len(m.Contacts) > 1 && m.Contacts[0] != m.Contacts[len(m.Contacts)-1] {
		x := m
		x.Contacts = slices.Clone(m.Contacts)
		slices.Reverse(x.Contacts)
		list = append(list, x)
	}
	return list
}

func TestSame(t *testing.T) { // P14.3
	for at, a := range append(rights(), wrongs()...) {
		b := a
		b.Contacts, b.Roster = slices.Clone(a.Contacts), slices.Clone(a.Roster)
		if !Same(a, a) || !Same(a, b) {
			t.Errorf("%d is not itself", at)
		}
		for n, c := range others(a) {
			if Same(a, c) || Same(c, a) {
				t.Errorf("%d is the same as another one, %d", at, n)
			}
		}
	}
	for a, x := range rights() {
		for b, y := range rights() {
			if Same(x, y) != (a == b) {
				t.Error(a, b)
			}
		}
	}
}

func TestSameOfEmptyLists(t *testing.T) { // P14.3, rule 3
	for _, a := range []api.Message{{}, {Kind: api.KindNodes, Txn: 3}, {Kind: -5, Key: api.ID{7}}} {
		b := a
		b.Contacts, b.Roster = []api.Contact{}, []api.Instance{}
		c := a
		c.Contacts, c.Roster = nodes(3)[:0], served16()[:0]
		for _, x := range []api.Message{a, b, c} {
			for _, y := range []api.Message{a, b, c} {
				if !Same(x, y) {
					t.Error(x, y)
				}
			}
		}
	}
}

func TestReply(t *testing.T) { // P14.3
	from := api.ID{5, 19: 6}
	for _, m := range append(rights(), wrongs()...) {
		for _, kind := range kinds() {
			want := api.Message{Kind: kind, Txn: m.Txn, From: from, Key: m.Key}
			if got := Reply(m, kind, from); !reflect.DeepEqual(got, want) {
				t.Error(told(m), "answered by", told(got))
			}
		}
	}
	m := api.Message{Kind: api.KindStore, Txn: 5, From: api.ID{1}, Key: api.ID{2}, Roster: []api.Instance{served(1)}}
	if r := Reply(m, api.KindStored, api.ID{}); !Same(r, api.Message{Kind: api.KindStored, Txn: 5, Key: api.ID{2}}) {
		t.Error(r)
	}
}

func TestReplyIsGood(t *testing.T) { // P14.3, P14.1
	for _, m := range rights() {
		for kind := range 10 {
			if Request(m.Kind) && Answers(m.Kind, kind) && kind != api.KindFound && !Good(Reply(m, kind, api.ID{4})) {
				t.Error(kind, "to", told(m))
			}
		}
	}
}

// drawn is a message of random parts: good, as often as not.
func drawn(r *rand.Rand) api.Message {
	m := api.Message{Kind: r.Intn(11), Txn: r.Uint32() >> r.Intn(32), From: api.ID{byte(r.Intn(3)), 19: byte(r.Intn(3))}}
	if r.Intn(3) > 0 && m.Kind != api.KindPing && m.Kind != api.KindPong {
		m.Key = api.ID{byte(r.Intn(256)), 19: byte(r.Intn(256))}
	}
	if m.Kind == api.KindNodes || r.Intn(20) == 0 {
		for range r.Intn(5) {
			m.Contacts = append(m.Contacts, node(r.Intn(20)))
		}
	}
	if m.Kind == api.KindStore || m.Kind == api.KindFound || r.Intn(20) == 0 {
		for n := range 5 {
			if r.Intn(3) == 0 {
				m.Roster = append(m.Roster, []api.Instance{served(n), stone(n)}[r.Intn(2)])
			}
		}
	}
	return m
}
