package queue_test

import (
	"math"
	"slices"
	"testing"

	"posthouse/api"
	"posthouse/queue"
)

// row is a message of a model: its number, and its owner, 0 if it is ready.
type row struct{ id, owner uint64 }

// model is a queue as the chapter's words have it, with one row for each message, in their order.
type model struct {
	limit uint64
	kept  uint64
	last  uint64
	rows  []row
}

func newModel(limit uint64) *model {
	if limit > 1<<62 {
		limit = 1 << 62
	}
	return &model{limit: limit}
}

func (m *model) room() uint64 {
	room := m.limit
	for range m.rows {
		if room > 0 {
			room--
		}
	}
	if m.kept > room {
		return 0
	}
	return room - m.kept
}

func (m *model) put(id uint64) api.Errno {
	switch {
	case id == 0 || id <= m.last:
		return api.ErrArg
	case m.room() == 0:
		return api.ErrFull
	}
	m.rows, m.last = append(m.rows, row{id: id}), id
	return api.OK
}

func (m *model) keep(n int) api.Errno {
	switch {
	case n < 0:
		return api.ErrArg
	case uint64(n) > m.room():
		return api.ErrFull
	}
	m.kept += uint64(n)
	return api.OK
}

func (m *model) give(n int) api.Errno {
	if n < 0 || uint64(n) > m.kept {
		return api.ErrArg
	}
	m.kept -= uint64(n)
	return api.OK
}

func (m *model) fill(id uint64) api.Errno {
	switch {
	case id == 0 || id <= m.last:
		return api.ErrArg
	case m.kept == 0:
		return api.ErrNone
	}
	m.kept--
	m.rows, m.last = append(m.rows, row{id: id}), id
	return api.OK
}

func (m *model) next(owner uint64) (uint64, bool) {
	for i, r := range m.rows {
		if r.owner == 0 && owner != 0 {
			m.rows[i].owner = owner
			return r.id, true
		}
	}
	return 0, false
}

// at returns where a message stands, or -1.
func (m *model) at(id uint64) int {
	for i, r := range m.rows {
		if r.id == id {
			return i
		}
	}
	return -1
}

func (m *model) hold(id, owner uint64) api.Errno {
	i := m.at(id)
	switch {
	case owner == 0:
		return api.ErrArg
	case i < 0:
		return api.ErrNone
	case m.rows[i].owner != 0:
		return api.ErrState
	}
	m.rows[i].owner = owner
	return api.OK
}

func (m *model) pass(id, from, to uint64) api.Errno {
	i := m.at(id)
	switch {
	case to == 0:
		return api.ErrArg
	case i < 0:
		return api.ErrNone
	case from == 0 || m.rows[i].owner != from:
		return api.ErrState
	}
	m.rows[i].owner = to
	return api.OK
}

func (m *model) free(id, owner uint64) api.Errno {
	i := m.at(id)
	switch {
	case i < 0:
		return api.ErrNone
	case owner == 0 || m.rows[i].owner != owner:
		return api.ErrState
	}
	m.rows[i].owner = 0
	return api.OK
}

func (m *model) drop(id, owner uint64) api.Errno {
	i := m.at(id)
	switch {
	case i < 0:
		return api.ErrNone
	case owner == 0 || m.rows[i].owner != owner:
		return api.ErrState
	}
	m.rows = append(m.rows[:i], m.rows[i+1:]...)
	return api.OK
}

func (m *model) purge() []uint64 {
	var gone []uint64
	var left []row
	for _, r := range m.rows {
		if r.owner == 0 {
			gone = append(gone, r.id)
		} else {
			left = append(left, r)
		}
	}
	m.rows = left
	return gone
}

func (m *model) owner(id uint64) (uint64, api.Errno) {
	i := m.at(id)
	if i < 0 {
		return 0, api.ErrNone
	}
	return m.rows[i].owner, api.OK
}

// of returns the numbers of the messages with that owner, those that are ready for 0.
func (m *model) of(owner uint64) []uint64 {
	var l []uint64
	for _, r := range m.rows {
		if r.owner == owner {
			l = append(l, r.id)
		}
	}
	return l
}

func (m *model) all() []uint64 {
	var l []uint64
	for _, r := range m.rows {
		l = append(l, r.id)
	}
	return l
}

// owners are those that the tests ask for.
func owners() []uint64 { return []uint64{0, 1, 2, 7, 8, 9, math.MaxUint64 - 1, math.MaxUint64} }

// checkSame asks q for all that it tells, and holds it against m.
func checkSame(t *testing.T, q *queue.Queue, m *model) {
	t.Helper()
	if q.Room() != m.room() || uint64(q.Kept()) != m.kept || q.Ready() != len(m.of(0)) {
		t.Fatalf("room %d, kept %d, ready %d, of %+v", q.Room(), q.Kept(), q.Ready(), *m)
	}
	if l := q.All(); !slices.Equal(l, m.all()) {
		t.Fatalf("all are %v, of %+v", l, *m)
	}
	for _, o := range owners() {
		var want []uint64
		if o != 0 {
			want = m.of(o)
		}
		if l := q.Of(o); !slices.Equal(l, want) {
			t.Fatalf("%d has %v, of %+v", o, l, *m)
		}
	}
	ids := []uint64{0, 1, m.last, m.last + 1, math.MaxUint64}
	for _, r := range m.rows {
		ids = append(ids, r.id-1, r.id, r.id+1)
	}
	for _, id := range ids {
		by, e := q.Owner(id)
		if want, no := m.owner(id); by != want || e != no {
			t.Fatalf("the owner of %d is %d %d, of %+v", id, by, e, *m)
		}
	}
}

// pair is a queue with its model: each call is made of both, and what they answer is held against each other.
type pair struct {
	t *testing.T
	q *queue.Queue
	m *model
}

func newPair(t *testing.T, limit uint64) *pair {
	p := &pair{t, queue.New(limit), newModel(limit)}
	checkSame(t, p.q, p.m)
	return p
}

// is holds an error against that of the model, and against the one that the test names.
func (p *pair) is(got, model, want api.Errno) {
	p.t.Helper()
	if got != want || model != want {
		p.t.Fatalf("%d, and %d by the model, instead of %d", got, model, want)
	}
	checkSame(p.t, p.q, p.m)
}

func (p *pair) put(id uint64, want api.Errno)  { p.t.Helper(); p.is(p.q.Put(id), p.m.put(id), want) }
func (p *pair) keep(n int, want api.Errno)     { p.t.Helper(); p.is(p.q.Keep(n), p.m.keep(n), want) }
func (p *pair) give(n int, want api.Errno)     { p.t.Helper(); p.is(p.q.Give(n), p.m.give(n), want) }
func (p *pair) fill(id uint64, want api.Errno) { p.t.Helper(); p.is(p.q.Fill(id), p.m.fill(id), want) }

func (p *pair) hold(id, owner uint64, want api.Errno) {
	p.t.Helper()
	p.is(p.q.Hold(id, owner), p.m.hold(id, owner), want)
}

func (p *pair) pass(id, from, to uint64, want api.Errno) {
	p.t.Helper()
	p.is(p.q.Pass(id, from, to), p.m.pass(id, from, to), want)
}

func (p *pair) free(id, owner uint64, want api.Errno) {
	p.t.Helper()
	p.is(p.q.Free(id, owner), p.m.free(id, owner), want)
}

func (p *pair) drop(id, owner uint64, want api.Errno) {
	p.t.Helper()
	p.is(p.q.Drop(id, owner), p.m.drop(id, owner), want)
}

// next asks for the next message; 0 stands for none.
func (p *pair) next(owner, want uint64) {
	p.t.Helper()
	id, is := p.q.Next(owner)
	other, wanted := p.m.next(owner)
	if id != want || other != want || is != wanted || is != (want != 0) {
		p.t.Fatalf("%d %v, and %d %v by the model, instead of %d", id, is, other, wanted, want)
	}
	checkSame(p.t, p.q, p.m)
}

func (p *pair) purge(want ...uint64) {
	p.t.Helper()
	l := p.q.Purge()
	if !slices.Equal(l, want) || !slices.Equal(p.m.purge(), want) {
		p.t.Fatalf("purged %v instead of %v", l, want)
	}
	checkSame(p.t, p.q, p.m)
}
