package store

import (
	"slices"

	"posthouse/api"
)

// building is a store under construction. It is a copy, so that it may be changed in place, and be given up half-way.
type building struct{ api.Store }

// deeds returns what each Kind of entry does.
func (b *building) deeds() map[uint8]func(api.Entry) {
	return map[uint8]func(api.Entry){
		api.EnQueue:      b.declare,
		api.EnDrop:       b.drop,
		api.EnDo:         b.do,
		api.EnPrep:       b.prepare,
		api.EnCommit:     b.commit,
		api.EnBack:       b.back,
		api.EnHeurCommit: b.heurCommit,
		api.EnHeurBack:   b.heurBack,
		api.EnForget:     b.forget,
	}
}

// demand gives up with an error, unless it is none.
func demand(err api.Errno) { refuse(err != api.OK, err) }

// refuse gives up with that error if it is so.
func refuse(so bool, err api.Errno) {
	if so {
		panic(err)
	}
}

func (b *building) declare(e api.Entry) {
	b.Queues = with(b.Queues, api.QueueRow{Name: e.Name, Limit: e.N}, byName)
}

func (b *building) drop(e api.Entry) {
	at := b.queue(e.Name)
	puts := func(p api.Put) bool { return p.Queue == e.Name }
	takes := func(r api.Ref) bool { return r.Queue == e.Name }
	refuse(slices.ContainsFunc(b.Branches, func(row api.BranchRow) bool {
		return slices.ContainsFunc(row.Puts, puts) || slices.ContainsFunc(row.Takes, takes)
	}), api.ErrState)
	b.Queues = without(b.Queues, at)
}

func (b *building) do(e api.Entry) {
	next := b.Next
	for _, p := range e.Puts {
		b.queue(p.Queue)
		refuse(p.Id < next, api.ErrState)
		next = p.Id + 1
	}
	b.mustTake(e.Takes)
	b.remove(e.Takes)
	for _, p := range e.Puts {
		b.add(p)
	}
}

func (b *building) prepare(e api.Entry) {
	row := api.BranchRow{X: e.X, Puts: e.Puts, Takes: e.Takes}
	isKnown := has(b.Branches, row, byBranch) || has(b.Heurs, api.HeurRow{X: e.X}, byHeur)
	refuse(isKnown, api.ErrThere)
	for _, p := range e.Puts {
		b.queue(p.Queue)
	}
	b.mustTake(e.Takes)
	b.Branches = with(b.Branches, row, byBranch)
}

func (b *building) commit(e api.Entry) {
	row := b.end(e.X)
	refuse(len(row.Puts) > 0 && e.N != b.Next, api.ErrState)
	refuse(b.Next+uint64(len(row.Puts)) > mostNext, api.ErrFull)
	b.remove(row.Takes)
	for _, p := range row.Puts {
		p.Id = b.Next
		b.add(p)
	}
}

func (b *building) back(e api.Entry) {
	for _, r := range b.end(e.X).Takes {
		q, at := b.message(r)
		q.Msgs[at].Props.Redelivered = true
	}
}

func (b *building) heurCommit(e api.Entry) {
	b.commit(e)
	b.decide(e.X, true)
}

func (b *building) heurBack(e api.Entry) {
	b.back(e)
	b.decide(e.X, false)
}

func (b *building) forget(e api.Entry) {
	b.Heurs = without(b.Heurs, need(b.Heurs, api.HeurRow{X: e.X}, byHeur))
}

// queue returns where the queue of that name is, which must be there.
func (b *building) queue(name string) int {
	return need(b.Queues, api.QueueRow{Name: name}, byName)
}

// message returns the queue of a message, and where it is there, where it must be.
func (b *building) message(r api.Ref) (*api.QueueRow, int) {
	q := &b.Queues[b.queue(r.Queue)]
	return q, need(q.Msgs, api.MsgRow{Id: r.Id}, byId)
}

// mustTake asks of the messages that are to be taken that each is there, and neither taken before nor locked.
func (b *building) mustTake(takes []api.Ref) {
	locked := locks(b.Store)
	for i, r := range takes {
		refuse(slices.Contains(takes[:i], r), api.ErrNone)
		b.message(r)
		_, is := locked[r]
		refuse(is, api.ErrState)
	}
}

// remove removes the messages that are taken.
func (b *building) remove(takes []api.Ref) {
	for _, r := range takes {
		q, at := b.message(r)
		q.Msgs = without(q.Msgs, at)
	}
}

// add adds a message with the number that its put has, which is that of the next message or above it.
func (b *building) add(p api.Put) {
	q := &b.Queues[b.queue(p.Queue)]
	q.Msgs = append(q.Msgs, api.MsgRow{Id: p.Id, Props: p.Props, Body: p.Body})
	b.Next = p.Id + 1
}

// end removes a branch, which must be there, and returns what it was.
func (b *building) end(x api.Xid) api.BranchRow {
	at := need(b.Branches, api.BranchRow{X: x}, byBranch)
	row := b.Branches[at]
	b.Branches = without(b.Branches, at)
	return row
}

// decide keeps what an operator decided of a branch.
func (b *building) decide(x api.Xid, committed bool) {
	b.Heurs = with(b.Heurs, api.HeurRow{X: x, Committed: committed}, byHeur)
}

// need returns where the row is that the order can't tell from that one, and gives up if there is none.
func need[Row any](rows []Row, like Row, order func(a, b Row) int) int {
	at, is := find(rows, like, order)
	refuse(!is, api.ErrNone)
	return at
}

// with returns the rows with one more in its place, and gives up if there is one that the order can't tell from it.
func with[Row any](rows []Row, one Row, order func(a, b Row) int) []Row {
	at, is := find(rows, one, order)
	refuse(is, api.ErrThere)
	return slices.Insert(rows, at, one)
}

// without returns the rows without the one at that place.
func without[Row any](rows []Row, at int) []Row {
	if len(rows) == 1 {
		// As everywhere in what is answered, a list of none is nil.
		return nil
	}
	return slices.Delete(rows, at, at+1)
}

// copied returns a copy of a consistent store that shares no memory with it.
func copied(s api.Store) api.Store {
	return api.Store{
		Next: s.Next,
		Queues: each(s.Queues, func(q api.QueueRow) api.QueueRow {
			q.Msgs = each(q.Msgs, func(m api.MsgRow) api.MsgRow {
				m.Props.App = copiedValue(m.Props.App)
				return m
			})
			return q
		}),
		Branches: each(s.Branches, func(b api.BranchRow) api.BranchRow {
			e := copiedWork(prepared(b))
			return api.BranchRow{X: e.X, Puts: e.Puts, Takes: e.Takes}
		}),
		Heurs: each(s.Heurs, itself),
	}
}

// copiedWork returns an entry with copies of its puts and takes that share no memory with them.
func copiedWork(e api.Entry) api.Entry {
	e.Puts = each(e.Puts, func(p api.Put) api.Put {
		p.Props.App = copiedValue(p.Props.App)
		return p
	})
	e.Takes = each(e.Takes, itself)
	return e
}

// copiedValue returns a copy of a value that shares no memory with it, where it isn't too deep.
func copiedValue(v api.Value) api.Value {
	v.Keys = each(v.Keys, itself)
	v.List = each(v.List, copiedValue)
	return v
}

// each returns a new list of what is made of each row: nil if there is none.
func each[Row any](rows []Row, made func(Row) Row) []Row {
	var out []Row
	for _, one := range rows {
		out = append(out, made(one))
	}
	return out
}

// itself returns a row that holds no memory that is to be copied.
func itself[Row any](one Row) Row { return one }
