package store

import (
	"slices"

	"posthouse/api"
	"posthouse/entry"
	"posthouse/octet"
	"posthouse/props"
	"posthouse/xid"
)

// The widths of an encoding's integers, of how many rows of each list there are, and of the lengths of its strings.
const (
	numberWidth  = 8
	rowsWidth    = 2
	messageWidth = 4
	nameWidth    = 1
	propsWidth   = 4
	bodyWidth    = 2
	branchWidth  = 4
	flagWidth    = 1
)

// mostRows is how many queues, branches or Heurs are encoded at most.
const mostRows = 60000

// Put returns the encoding of s.
func Put(s api.Store) (string, api.Errno) {
	if err := Check(s); err != api.OK {
		return "", err
	}
	if max(len(s.Queues), len(s.Branches), len(s.Heurs)) > mostRows {
		return "", api.ErrFull
	}
	return string(encoded(s)), api.OK
}

// Get returns the store of which b is the encoding.
func Get(b string) (api.Store, api.Errno) {
	s := decoded(b)
	// Whatever was read, b is an encoding only if it is that of what was read.
	if only, err := Put(s); err != api.OK || only != b {
		return api.Store{}, api.ErrStore
	}
	return s, api.OK
}

// encoded returns the encoding of a consistent store, in which nothing is too long for its width.
func encoded(s api.Store) []byte {
	return slices.Concat(
		octet.Put(nil, s.Next, numberWidth),
		encodedRows(s.Queues, rowsWidth, queueBytes),
		encodedRows(s.Branches, rowsWidth, branchBytes),
		encodedRows(s.Heurs, rowsWidth, heurBytes),
	)
}

// encodedRows returns how many rows there are, and what each of them is encoded as.
func encodedRows[Row any](rows []Row, width int, one func(Row) []byte) []byte {
	out := octet.Put(nil, uint64(len(rows)), width)
	for _, row := range rows {
		out = append(out, one(row)...)
	}
	return out
}

func queueBytes(q api.QueueRow) []byte {
	head := octet.Put(text(q.Name, nameWidth), q.Limit, numberWidth)
	return append(head, encodedRows(q.Msgs, messageWidth, messageBytes)...)
}

func messageBytes(m api.MsgRow) []byte {
	head, _ := props.Put(m.Props)
	return slices.Concat(octet.Put(nil, m.Id, numberWidth), text(head, propsWidth), text(m.Body, bodyWidth))
}

func branchBytes(b api.BranchRow) []byte {
	made, _ := entry.Put(prepared(b))
	return text(made, branchWidth)
}

func heurBytes(h api.HeurRow) []byte {
	x, _ := xid.Put(h.X)
	committed := uint64(0)
	if h.Committed {
		committed = 1
	}
	return octet.Put(x, committed, flagWidth)
}

// text returns s as a string of that width, for which it is not too long.
func text(s string, width int) []byte {
	out, _ := octet.PutText(nil, s, width)
	return out
}

// reader reads a store's rows, and zero values once they are not there. It has the whole encoding, since only what reads a name tells where it ends.
type reader struct {
	*octet.Reader
	whole []byte
}

// decoded returns the store of which s is the encoding; if it is none, any store.
func decoded(s string) api.Store {
	r := &reader{octet.Open([]byte(s)), []byte(s)}
	return api.Store{
		Next:     r.Num(numberWidth),
		Queues:   decodedRows(r, rowsWidth, r.queue),
		Branches: decodedRows(r, rowsWidth, r.branch),
		Heurs:    decodedRows(r, rowsWidth, r.heur),
	}
}

// decodedRows returns the rows that follow, which are decoded one by one.
func decodedRows[Row any](r *reader, width int, one func() Row) []Row {
	var rows []Row
	for range r.Num(width) {
		// There may be far fewer rows than bytes say that there are.
		if r.Bad() {
			break
		}
		rows = append(rows, one())
	}
	return rows
}

func (r *reader) queue() api.QueueRow {
	return api.QueueRow{
		Name:  r.Text(nameWidth, api.MaxQueueName),
		Limit: r.Num(numberWidth),
		Msgs:  decodedRows(r, messageWidth, r.message),
	}
}

func (r *reader) message() api.MsgRow {
	return api.MsgRow{Id: r.Num(numberWidth), Props: r.props(), Body: r.Text(bodyWidth, api.MaxBody)}
}

func (r *reader) props() api.Props {
	p, _ := props.Get(r.Text(propsWidth, api.MaxProps))
	return p
}

func (r *reader) branch() api.BranchRow {
	made, _ := entry.Get(r.Text(branchWidth, r.Left()))
	return api.BranchRow{X: made.X, Puts: made.Puts, Takes: made.Takes}
}

func (r *reader) heur() api.HeurRow {
	return api.HeurRow{X: r.xid(), Committed: r.Num(flagWidth) == 1}
}

func (r *reader) xid() api.Xid {
	x, size, _ := xid.Get(r.whole[len(r.whole)-r.Left():])
	r.Take(size)
	return x
}
