package store_test

import (
	"cmp"
	"encoding/binary"
	"encoding/hex"
	"fmt"
	"maps"
	"math"
	"reflect"
	"regexp"
	"slices"
	"strings"
	"testing"

	"posthouse/api"
	"posthouse/entry"
	"posthouse/props"
	"posthouse/store"
	"posthouse/xid"
)

// The limits as the chapters tell them.
const (
	mostName  = 40
	mostId    = 1 << 40
	mostBody  = 4096
	mostProps = 8192
	mostWork  = 100
	mostPart  = 64
	mostRows  = 60000
)

var queueName = regexp.MustCompile(`^[\x21-\x7e]{1,40}$`)

func isId(n uint64) bool { return 1 <= n && n <= mostId }

// isMessage tells whether a message of a queue with a valid name is valid, but for its number.
func isMessage(p api.Props, body string) bool {
	s, no := props.Put(p)
	return no == api.OK && len(s) <= mostProps && len(body) <= mostBody
}

// judged tells whether s is consistent, by the chapter's words and layers 4 and 9.
func judged(s api.Store) bool {
	if s.Next < 1 || s.Next > mostId+1 {
		return false
	}
	queues, messages := map[string]bool{}, map[api.Ref]bool{}
	for i, q := range s.Queues {
		if i > 0 && s.Queues[i-1].Name >= q.Name || !queueName.MatchString(q.Name) || !isId(q.Limit) {
			return false
		}
		queues[q.Name] = true
		for j, m := range q.Msgs {
			if j > 0 && q.Msgs[j-1].Id >= m.Id || m.Id < 1 || m.Id >= s.Next || !isMessage(m.Props, m.Body) {
				return false
			}
			messages[ref(q.Name, m.Id)] = true
		}
	}
	branches := map[api.Xid]bool{}
	for i, b := range s.Branches {
		if i > 0 && xid.Compare(s.Branches[i-1].X, b.X) >= 0 || xid.Check(b.X) != api.OK || len(b.Puts) > mostWork || len(b.Takes) > mostWork {
			return false
		}
		branches[b.X] = true
		for _, p := range b.Puts {
			if p.Id != 0 || !queues[p.Queue] || !isMessage(p.Props, p.Body) {
				return false
			}
		}
		for _, r := range b.Takes {
			if !messages[r] {
				return false
			}
			// Nobody else may take it.
			delete(messages, r)
		}
	}
	for i, h := range s.Heurs {
		if i > 0 && xid.Compare(s.Heurs[i-1].X, h.X) >= 0 || xid.Check(h.X) != api.OK || branches[h.X] {
			return false
		}
	}
	return true
}

// world is a store whose rows are found by what tells them apart, in no order.
type world struct {
	next     uint64
	queues   map[string]*line
	branches map[api.Xid]api.BranchRow
	heurs    map[api.Xid]bool
}

type line struct {
	limit uint64
	msgs  map[uint64]api.MsgRow
}

func worldOf(s api.Store) *world {
	w := &world{s.Next, map[string]*line{}, map[api.Xid]api.BranchRow{}, map[api.Xid]bool{}}
	for _, q := range s.Queues {
		w.queues[q.Name] = &line{q.Limit, map[uint64]api.MsgRow{}}
		for _, m := range q.Msgs {
			w.queues[q.Name].msgs[m.Id] = m
		}
	}
	for _, b := range s.Branches {
		w.branches[b.X] = b
	}
	for _, h := range s.Heurs {
		w.heurs[h.X] = h.Committed
	}
	return w
}

// store is the store that w is, its rows in their order.
func (w *world) store() api.Store {
	s := api.Store{Next: w.next}
	for _, name := range slices.Sorted(maps.Keys(w.queues)) {
		q := api.QueueRow{Name: name, Limit: w.queues[name].limit}
		for _, id := range slices.Sorted(maps.Keys(w.queues[name].msgs)) {
			q.Msgs = append(q.Msgs, w.queues[name].msgs[id])
		}
		s.Queues = append(s.Queues, q)
	}
	for _, x := range slices.SortedFunc(maps.Keys(w.branches), inOrder) {
		s.Branches = append(s.Branches, w.branches[x])
	}
	for _, x := range slices.SortedFunc(maps.Keys(w.heurs), inOrder) {
		s.Heurs = append(s.Heurs, api.HeurRow{X: x, Committed: w.heurs[x]})
	}
	return s
}

// inOrder is the order of names, by layer 4's words.
func inOrder(a, b api.Xid) int {
	return cmp.Or(cmp.Compare(a.Format, b.Format), cmp.Compare(a.Global, b.Global), cmp.Compare(a.Branch, b.Branch))
}

// taker is the branch that takes a message.
func (w *world) taker(r api.Ref) (api.Xid, bool) {
	for x, b := range w.branches {
		if slices.Contains(b.Takes, r) {
			return x, true
		}
	}
	return api.Xid{}, false
}

func (w *world) uses(queue string) bool {
	for _, b := range w.branches {
		for _, p := range b.Puts {
			if p.Queue == queue {
				return true
			}
		}
		for _, r := range b.Takes {
			if r.Queue == queue {
				return true
			}
		}
	}
	return false
}

// refusesTakes tells the error of the first take that can't be taken.
func (w *world) refusesTakes(takes []api.Ref) api.Errno {
	for i, r := range takes {
		for _, before := range takes[:i] {
			if r == before {
				return api.ErrNone
			}
		}
		q := w.queues[r.Queue]
		if q == nil {
			return api.ErrNone
		}
		if _, is := q.msgs[r.Id]; !is {
			return api.ErrNone
		}
		if _, is := w.taker(r); is {
			return api.ErrState
		}
	}
	return api.OK
}

// refuses tells by the second column of the chapter's table what is against a valid entry.
func (w *world) refuses(e api.Entry) api.Errno {
	b, isBranch := w.branches[e.X]
	_, isHeur := w.heurs[e.X]
	switch e.Kind {
	case 1:
		if w.queues[e.Name] != nil {
			return api.ErrThere
		}
	case 2:
		if w.queues[e.Name] == nil {
			return api.ErrNone
		}
		if w.uses(e.Name) {
			return api.ErrState
		}
	case 3:
		for i, p := range e.Puts {
			if w.queues[p.Queue] == nil {
				return api.ErrNone
			}
			if p.Id < w.next || i > 0 && p.Id <= e.Puts[i-1].Id {
				return api.ErrState
			}
		}
		return w.refusesTakes(e.Takes)
	case 4:
		if isBranch || isHeur {
			return api.ErrThere
		}
		for _, p := range e.Puts {
			if w.queues[p.Queue] == nil {
				return api.ErrNone
			}
		}
		return w.refusesTakes(e.Takes)
	case 5, 7:
		if !isBranch {
			return api.ErrNone
		}
		if len(b.Puts) > 0 && e.N != w.next {
			return api.ErrState
		}
		if len(b.Puts) > 0 && w.next+uint64(len(b.Puts))-1 > mostId {
			return api.ErrFull
		}
	case 6, 8:
		if !isBranch {
			return api.ErrNone
		}
	case 9:
		if !isHeur {
			return api.ErrNone
		}
	}
	return api.OK
}

func (w *world) take(takes []api.Ref) {
	for _, r := range takes {
		delete(w.queues[r.Queue].msgs, r.Id)
	}
}

func (w *world) put(p api.Put) {
	w.queues[p.Queue].msgs[p.Id] = api.MsgRow{Id: p.Id, Props: p.Props, Body: p.Body}
	w.next = p.Id + 1
}

func (w *world) commit(x api.Xid) {
	w.take(w.branches[x].Takes)
	for _, p := range w.branches[x].Puts {
		p.Id = w.next
		w.put(p)
	}
	delete(w.branches, x)
}

func (w *world) back(x api.Xid) {
	for _, r := range w.branches[x].Takes {
		m := w.queues[r.Queue].msgs[r.Id]
		m.Props.Redelivered = true
		w.queues[r.Queue].msgs[r.Id] = m
	}
	delete(w.branches, x)
}

// do does by the third column of the chapter's table what a valid entry tells, against which there is nothing.
func (w *world) do(e api.Entry) {
	switch e.Kind {
	case 1:
		w.queues[e.Name] = &line{e.N, map[uint64]api.MsgRow{}}
	case 2:
		delete(w.queues, e.Name)
	case 3:
		w.take(e.Takes)
		for _, p := range e.Puts {
			w.put(p)
		}
	case 4:
		w.branches[e.X] = api.BranchRow{X: e.X, Puts: e.Puts, Takes: e.Takes}
	case 5:
		w.commit(e.X)
	case 6:
		w.back(e.X)
	case 7:
		w.commit(e.X)
		w.heurs[e.X] = true
	case 8:
		w.back(e.X)
		w.heurs[e.X] = false
	case 9:
		delete(w.heurs, e.X)
	}
}

// applied is what Apply has to answer.
func applied(s api.Store, e api.Entry) (api.Store, api.Errno) {
	if !judged(s) {
		return api.Store{}, api.ErrStore
	}
	if entry.Check(e) != api.OK {
		return api.Store{}, api.ErrEntry
	}
	w := worldOf(s)
	if no := w.refuses(e); no != api.OK {
		return api.Store{}, no
	}
	w.do(e)
	return w.store(), api.OK
}

// integer is n as that many bytes.
func integer(n uint64, width int) string {
	return string(binary.BigEndian.AppendUint64(nil, n)[8-width:])
}

// number is the integer whose bytes these are.
func number(s string) uint64 {
	wide := make([]byte, 8)
	copy(wide[8-len(s):], s)
	return binary.BigEndian.Uint64(wide)
}

// sized is a string behind its length.
func sized(s string, width int) string { return integer(uint64(len(s)), width) + s }

// xidBytes is what is encoded of a name, valid or not.
func xidBytes(x api.Xid) string {
	return integer(uint64(x.Format), 4) + sized(x.Global, 1) + sized(x.Branch, 1)
}

// head is the encoding of properties that layer 9 takes, whatever their size.
func head(p api.Props) string {
	s, e := props.Put(p)
	if e != api.OK {
		panic(e)
	}
	return s
}

// prepBytes is what layer 13 encodes of a branch's entry, valid or not.
func prepBytes(b api.BranchRow) string {
	var out strings.Builder
	out.WriteString("\x04" + xidBytes(b.X) + integer(uint64(len(b.Puts)), 1))
	for _, p := range b.Puts {
		out.WriteString(sized(p.Queue, 1) + integer(p.Id, 8) + sized(head(p.Props), 4) + sized(p.Body, 2))
	}
	out.WriteString(integer(uint64(len(b.Takes)), 1))
	for _, r := range b.Takes {
		out.WriteString(sized(r.Queue, 1) + integer(r.Id, 8))
	}
	return out.String()
}

func messageBytes(m api.MsgRow, head string) string {
	return integer(m.Id, 8) + sized(head, 4) + sized(m.Body, 2)
}

func queueBytes(q api.QueueRow) string {
	var out strings.Builder
	out.WriteString(sized(q.Name, 1) + integer(q.Limit, 8) + integer(uint64(len(q.Msgs)), 4))
	for _, m := range q.Msgs {
		out.WriteString(messageBytes(m, head(m.Props)))
	}
	return out.String()
}

func heurBytes(h api.HeurRow) string {
	if h.Committed {
		return xidBytes(h.X) + "\x01"
	}
	return xidBytes(h.X) + "\x00"
}

// listed is how many there are, and what each of them is written as.
func listed[T any](l []T, written func(T) string) string {
	var out strings.Builder
	out.WriteString(integer(uint64(len(l)), 2))
	for _, one := range l {
		out.WriteString(written(one))
	}
	return out.String()
}

// encoded is what is encoded of a store, consistent or not, made by the chapters' words.
func encoded(s api.Store) string {
	branch := func(b api.BranchRow) string { return sized(prepBytes(b), 4) }
	return integer(s.Next, 8) + listed(s.Queues, queueBytes) + listed(s.Branches, branch) + listed(s.Heurs, heurBytes)
}

// cutter cuts a string from its start on; once something is not there it is over.
type cutter struct {
	left string
	over bool
}

func (c *cutter) bytes(n uint64) string {
	if c.over || uint64(len(c.left)) < n {
		c.over = true
		return ""
	}
	s := c.left[:n]
	c.left = c.left[n:]
	return s
}

func (c *cutter) integer(width int) uint64 { return number(c.bytes(uint64(width))) }
func (c *cutter) sized(width int) string   { return c.bytes(c.integer(width)) }

func (c *cutter) xid() api.Xid {
	return api.Xid{Format: uint32(c.integer(4)), Global: c.sized(1), Branch: c.sized(1)}
}

func (c *cutter) props() api.Props {
	p, e := props.Get(c.sized(4))
	c.over = c.over || e != api.OK
	return p
}

// list cuts what a number of that width tells how often it is there.
func list[T any](c *cutter, width int, one func() T) []T {
	var l []T
	for n := c.integer(width); n > 0 && !c.over; n-- {
		l = append(l, one())
	}
	return l
}

func (c *cutter) message() api.MsgRow {
	return api.MsgRow{Id: c.integer(8), Props: c.props(), Body: c.sized(2)}
}

func (c *cutter) queue() api.QueueRow {
	return api.QueueRow{Name: c.sized(1), Limit: c.integer(8), Msgs: list(c, 4, c.message)}
}

func (c *cutter) branch() api.BranchRow {
	inner := &cutter{left: c.sized(4)}
	kind := inner.integer(1)
	b := api.BranchRow{X: inner.xid()}
	b.Puts = list(inner, 1, func() api.Put {
		return api.Put{Queue: inner.sized(1), Id: inner.integer(8), Props: inner.props(), Body: inner.sized(2)}
	})
	b.Takes = list(inner, 1, func() api.Ref { return api.Ref{Queue: inner.sized(1), Id: inner.integer(8)} })
	c.over = c.over || inner.over || inner.left != "" || kind != 4
	return b
}

func (c *cutter) heur() api.HeurRow {
	x, flag := c.xid(), c.integer(1)
	c.over = c.over || flag > 1
	return api.HeurRow{X: x, Committed: flag == 1}
}

// decoded is the store of which s is the encoding, found row by row without the package.
func decoded(s string) (api.Store, bool) {
	c := &cutter{left: s}
	got := api.Store{Next: c.integer(8), Queues: list(c, 2, c.queue), Branches: list(c, 2, c.branch), Heurs: list(c, 2, c.heur)}
	most := max(len(got.Queues), len(got.Branches), len(got.Heurs))
	return got, !c.over && c.left == "" && most <= mostRows && judged(got)
}

// told tells stores so that two of them are told alike if and only if they are equal.
func told(s api.Store) string {
	var b strings.Builder
	fmt.Fprintf(&b, "next %d", s.Next)
	for _, q := range s.Queues {
		fmt.Fprintf(&b, "\nqueue %+q %d", q.Name, q.Limit)
		for _, m := range q.Msgs {
			fmt.Fprintf(&b, " message %d ", m.Id)
			tellMessage(&b, m.Props, m.Body)
		}
	}
	for _, row := range s.Branches {
		fmt.Fprintf(&b, "\nbranch %s", toldXid(row.X))
		for _, p := range row.Puts {
			fmt.Fprintf(&b, " put %+q %d ", p.Queue, p.Id)
			tellMessage(&b, p.Props, p.Body)
		}
		for _, r := range row.Takes {
			fmt.Fprintf(&b, " take %+q %d", r.Queue, r.Id)
		}
	}
	for _, h := range s.Heurs {
		fmt.Fprintf(&b, "\nheur %s %v", toldXid(h.X), h.Committed)
	}
	return b.String()
}

func toldXid(x api.Xid) string { return fmt.Sprintf("%d.%x.%x", x.Format, x.Global, x.Branch) }

func tellMessage(b *strings.Builder, p api.Props, body string) {
	fmt.Fprintf(b, "%+q %v %v %+q ", p.Key, p.Durable, p.Redelivered, p.Id)
	tell(b, p.App)
	fmt.Fprintf(b, " %+q", body)
}

func tell(b *strings.Builder, v api.Value) {
	fmt.Fprintf(b, "{%d %d %+q %+q", v.Kind, v.N, v.S, v.Keys)
	for _, element := range v.List {
		tell(b, element)
	}
	b.WriteString("}")
}

// show tells a store, consistent or not, in a few lines, without going into any App.
func show(s api.Store) string {
	out := fmt.Sprintf("next %d, %d queues, %d branches, %d heurs:", s.Next, len(s.Queues), len(s.Branches), len(s.Heurs))
	for _, q := range s.Queues[:min(len(s.Queues), 4)] {
		out += fmt.Sprintf(" queue %+.50q %d, %d messages", q.Name, q.Limit, len(q.Msgs))
		for _, m := range q.Msgs[:min(len(q.Msgs), 5)] {
			out += fmt.Sprintf(" %d %+.20q %v %v %+.20q App %d %d, %+.20q;", m.Id, m.Props.Key, m.Props.Durable, m.Props.Redelivered, m.Props.Id, m.Props.App.Kind, len(m.Props.App.List), m.Body)
		}
	}
	for _, b := range s.Branches[:min(len(s.Branches), 4)] {
		out += fmt.Sprintf(" branch %.90s, %d puts, %d takes:", toldXid(b.X), len(b.Puts), len(b.Takes))
		for _, p := range b.Puts[:min(len(b.Puts), 4)] {
			out += fmt.Sprintf(" put %+.50q %d, %+.20q;", p.Queue, p.Id, p.Body)
		}
		for _, r := range b.Takes[:min(len(b.Takes), 4)] {
			out += fmt.Sprintf(" take %+.50q %d;", r.Queue, r.Id)
		}
	}
	for _, h := range s.Heurs[:min(len(s.Heurs), 4)] {
		out += fmt.Sprintf(" heur %.90s %v", toldXid(h.X), h.Committed)
	}
	return out
}

// showEntry tells an entry, valid or not, in a line.
func showEntry(e api.Entry) string {
	s := fmt.Sprintf("%d %+.50q %d %.90s, %d puts, %d takes:", e.Kind, e.Name, e.N, toldXid(e.X), len(e.Puts), len(e.Takes))
	for _, p := range e.Puts[:min(len(e.Puts), 4)] {
		s += fmt.Sprintf(" put %+.50q %d, %+.20q;", p.Queue, p.Id, p.Body)
	}
	for _, r := range e.Takes[:min(len(e.Takes), 4)] {
		s += fmt.Sprintf(" take %+.50q %d;", r.Queue, r.Id)
	}
	return s
}

// checkConsistent asks whether Check has nothing against s.
func checkConsistent(t *testing.T, s api.Store) {
	t.Helper()
	if no := store.Check(s); no != api.OK {
		t.Errorf("Check of %s: %d", show(s), no)
	}
}

// checkNot asks whether every function refuses s, whatever else it is given.
func checkNot(t *testing.T, s api.Store) {
	t.Helper()
	if no := store.Check(s); no != api.ErrStore {
		t.Errorf("Check of %s: %d", show(s), no)
	}
	if b, no := store.Put(s); no != api.ErrStore || b != "" {
		t.Errorf("Put of %s: %.80x, %d", show(s), b, no)
	}
	for _, e := range []api.Entry{{Kind: api.EnQueue, Name: "new", N: 1}, {Kind: api.EnDrop, Name: "none"}, {Kind: api.EnDo}, {}} {
		if got, no := store.Apply(s, e); no != api.ErrStore || !reflect.DeepEqual(got, api.Store{}) {
			t.Errorf("Apply of %s to %s: %s, %d", showEntry(e), show(s), show(got), no)
		}
	}
	for _, b := range s.Branches {
		for _, r := range b.Takes {
			if x, is := store.Locked(s, r); is || x != (api.Xid{}) {
				t.Errorf("Locked of %s, %v: %s, %v", show(s), r, toldXid(x), is)
			}
		}
	}
}

// checkJudged asks whether s is taken or refused as the chapter words it, and tells which.
func checkJudged(t *testing.T, s api.Store) bool {
	t.Helper()
	is := judged(s)
	if is {
		checkConsistent(t, s)
	} else {
		checkNot(t, s)
	}
	return is
}

// checkIs asks whether s is consistent, or not.
func checkIs(t *testing.T, s api.Store, is bool) {
	t.Helper()
	if checkJudged(t, s) != is {
		t.Errorf("%s: %v", show(s), !is)
	}
}

// checkApplied asks whether Apply answers as the chapter words it, and returns that.
func checkApplied(t *testing.T, s api.Store, e api.Entry) (api.Store, api.Errno) {
	t.Helper()
	want, wantNo := applied(s, e)
	got, no := store.Apply(s, e)
	if no != wantNo || told(got) != told(want) {
		t.Errorf("Apply of %s\n to %s:\n %s, %d,\n not %s, %d", showEntry(e), show(s), show(got), no, show(want), wantNo)
	}
	if no == api.OK && !judged(got) {
		t.Errorf("Apply of %s\n to %s:\n %s, not consistent", showEntry(e), show(s), show(got))
	}
	if no != api.OK && !reflect.DeepEqual(got, api.Store{}) {
		t.Errorf("Apply of %s\n to %s:\n %d and %#v", showEntry(e), show(s), no, got)
	}
	return want, wantNo
}

// checkDone asks whether e makes that store of s.
func checkDone(t *testing.T, s api.Store, e api.Entry, want api.Store) {
	t.Helper()
	got, no := store.Apply(s, e)
	if no != api.OK || told(got) != told(want) {
		t.Errorf("Apply of %s\n to %s:\n %s, %d,\n not %s", showEntry(e), show(s), show(got), no, show(want))
	}
	checkApplied(t, s, e)
}

// checkError asks whether e can't be applied to s for that reason.
func checkError(t *testing.T, s api.Store, e api.Entry, want api.Errno) {
	t.Helper()
	if got, no := store.Apply(s, e); no != want || !reflect.DeepEqual(got, api.Store{}) {
		t.Errorf("Apply of %s\n to %s:\n %s, %d, not %d", showEntry(e), show(s), show(got), no, want)
	}
	checkApplied(t, s, e)
}

// checkPut asks whether Put of s answers b.
func checkPut(t *testing.T, s api.Store, b string) {
	t.Helper()
	if got, no := store.Put(s); no != api.OK || got != b {
		t.Errorf("Put of %s: %.200x, %d, not %.200x", show(s), got, no, b)
	}
}

// checkGot asks whether Get of b answers s.
func checkGot(t *testing.T, b string, s api.Store) {
	t.Helper()
	if got, no := store.Get(b); no != api.OK || told(got) != told(s) {
		t.Errorf("Get of %.80x: %s, %d, not %s", b, show(got), no, show(s))
	}
}

// checkRefused asks whether Get of b answers the error, and nothing else.
func checkRefused(t *testing.T, b string) {
	t.Helper()
	if s, no := store.Get(b); no != api.ErrStore || !reflect.DeepEqual(s, api.Store{}) {
		t.Errorf("Get of %.200x: %s, %d", b, show(s), no)
	}
}

// checkAsWorded asks whether Get of b answers as the chapter words it, and tells whether b is an encoding.
func checkAsWorded(t *testing.T, b string) bool {
	t.Helper()
	s, is := decoded(b)
	if is {
		checkGot(t, b, s)
	} else {
		checkRefused(t, b)
	}
	return is
}

// hexed is the string that a text shows.
func hexed(s string) string {
	b, e := hex.DecodeString(strings.ReplaceAll(s, " ", ""))
	if e != nil {
		panic(e)
	}
	return string(b)
}

// long is a string of so many bytes.
func long(n int) string { return strings.Repeat("x", n) }

// named is a branch's name.
func named(format uint32, global, branch string) api.Xid {
	return api.Xid{Format: format, Global: global, Branch: branch}
}

func ref(queue string, id uint64) api.Ref { return api.Ref{Queue: queue, Id: id} }

// goodNames are queue names in their order.
func goodNames() []string {
	return []string{"!", "!~", "\x22'\\", "0", "Q", "a", "a.b", "ab", "b", "q", long(mostName - 1), long(mostName), "~", strings.Repeat("~", mostName)}
}

// badNames are none.
func badNames() []string {
	return []string{
		"", " ", "\x7f", "\x00", "\xff", "\n", "é", "a b", "q\n", "\nq", "q\x00", " q", "q ", "q\x7f", "\x80",
		long(mostName + 1), long(mostName+1) + " ", long(mostName-1) + " ", long(255), long(256), long(257), long(256 + mostName),
	}
}

// goodIds are message numbers, badIds none.
func goodIds() []uint64 { return []uint64{1, 2, 255, 256, 1<<32 - 1, 1 << 32, mostId - 1, mostId} }
func badIds() []uint64 {
	return []uint64{0, mostId + 1, mostId + 2, 1<<40 + 1<<8, 1 << 41, 1<<48 + 1, 1 << 56, 1 << 63, math.MaxUint64 - mostId, math.MaxUint64}
}

// goodXids are valid names in their order.
func goodXids() []api.Xid {
	return []api.Xid{
		named(0, "\x00", ""), named(0, "a", ""), named(0, "a", "\x00"), named(0, "a", "\x00\x00"), named(0, "a", "b"), named(0, "aa", ""), named(0, "b", "a"), named(1, "a", "b"), named(7, "\x00\xff", "\x80"), named(255, "\xff", "\xff"), named(256, "a", ""), named(1<<31-1, "z", ""),
		named(1<<31, "a", long(mostPart)), named(1<<31, long(mostPart), ""), named(math.MaxUint32, long(mostPart), ""), named(math.MaxUint32, long(mostPart), strings.Repeat("\xff", mostPart)),
	}
}

// badXids are no valid names.
func badXids() []api.Xid {
	return []api.Xid{
		{}, named(7, "", ""), named(0, "", "b"), named(7, "", "b"), named(0, long(mostPart+1), ""), named(0, "a", long(mostPart+1)), named(7, long(255), "b"), named(7, "a", long(255)),
		named(7, long(256), "b"), named(7, "a", long(256)), named(7, long(257), ""), named(math.MaxUint32, long(1000), long(1000)),
	}
}

func dict(keys string, l ...api.Value) api.Value {
	return api.Value{Kind: api.ValueMap, Keys: strings.Split(keys, "."), List: l}
}

func void() api.Value { return api.Value{Kind: api.ValueVoid} }

func ofBytes(n int) api.Value { return api.Value{Kind: api.ValueBytes, S: long(n)} }

// heavy are properties whose encoding has just so many bytes, from 4200 to 8230.
func heavy(size int) api.Props {
	p := api.Props{App: dict("a.b", ofBytes(4096), ofBytes(0))}
	p.App.List[1] = ofBytes(size - len(head(p)))
	if len(head(p)) != size {
		panic(size)
	}
	return p
}

// nested are properties whose App has lists in lists.
func nested() api.Props {
	return api.Props{Key: "\x00", Durable: true, Id: "\xff", App: dict("k.l", dict("m.n", void(), dict("o", void())), api.Value{Kind: api.ValueList, List: []api.Value{void(), {Kind: api.ValueNum, N: 9}}})}
}

// goodProps are properties of a valid message.
func goodProps() []api.Props {
	return []api.Props{
		{}, {Key: "q"}, {Key: "q", Durable: true}, {Redelivered: true}, {Id: "a"}, nested(), {App: api.Value{Kind: api.ValueMap}}, {App: api.Value{Keys: []string{}, List: []api.Value{}}},
		{Key: long(255), Id: long(255)}, heavy(mostProps - 1), heavy(mostProps),
	}
}

// greatProps are valid properties whose encoding is too long for a message.
func greatProps() []api.Props { return []api.Props{heavy(mostProps + 1), heavy(mostProps + 2)} }

// wrongProps are properties that are not valid.
func wrongProps() []api.Props {
	return []api.Props{
		{Key: long(256)}, {Id: long(256)}, {App: void()}, {App: api.Value{N: 1}}, {App: api.Value{S: "a"}}, {App: api.Value{Keys: []string{""}}}, {App: api.Value{List: []api.Value{void()}}},
		{App: dict("k")}, {App: dict("k.k", void(), void())}, {App: dict("", void())}, {App: dict("k", api.Value{})}, {App: dict("k", ofBytes(4097))}, {App: endless()},
	}
}

// endless is a map that contains itself.
func endless() api.Value {
	v := dict("k", void())
	v.List[0] = v
	return v
}

// goodBodies are bodies of a valid message, badBodies of none.
func goodBodies() []string {
	return []string{"", "b", "\x00", "\xff\x00", long(255), long(256), long(mostBody - 1), long(mostBody)}
}

func badBodies() []string {
	return []string{long(mostBody + 1), long(mostBody + 2), long(65535), long(65536), long(65536 + mostBody)}
}

// message is a short one.
func message(id uint64, body string) api.MsgRow { return api.MsgRow{Id: id, Body: body} }

// put is a short put.
func put(queue string, id uint64, body string) api.Put {
	return api.Put{Queue: queue, Id: id, Body: body}
}

// x, y and z are branches' names, v and w those of decided ones, in the order v, w, x, y, z.
func v() api.Xid { return named(1, "v", "") }
func w() api.Xid { return named(7, "\x00\xff", "w") }
func x() api.Xid { return named(7, "x", "") }
func y() api.Xid { return named(7, "x", "y") }
func z() api.Xid { return named(1<<31, "a", long(mostPart)) }

// example is the chapter's S.
func example() api.Store {
	return api.Store{Next: 3, Queues: []api.QueueRow{{Name: "q", Limit: 9, Msgs: []api.MsgRow{message(1, "a"), message(2, "b")}}}}
}

// rich is a store with rows of all kinds: queues with and without messages, two with the same number, used by branches and not; branches with and without puts and takes.
func rich() api.Store {
	return api.Store{
		Next: 10,
		Queues: []api.QueueRow{
			{Name: "a", Limit: 1},
			{Name: "b", Limit: mostId, Msgs: []api.MsgRow{{Id: 2, Props: api.Props{Key: "b", Durable: true}, Body: "\x00\xff"}, {Id: 4}, {Id: 9, Props: api.Props{Redelivered: true}}}},
			{Name: "free", Limit: 3, Msgs: []api.MsgRow{{Id: 8, Props: nested()}}},
			{Name: "q", Limit: 9, Msgs: []api.MsgRow{message(1, "a"), message(2, "b"), {Id: 5, Props: nested(), Body: "c"}, message(7, "")}},
			{Name: "~", Limit: 2},
		},
		Branches: []api.BranchRow{
			{X: x(), Puts: []api.Put{{Queue: "q", Props: nested(), Body: "d"}, put("a", 0, "e"), put("q", 0, "f")}, Takes: []api.Ref{ref("q", 5), ref("b", 2), ref("q", 1)}},
			{X: y(), Takes: []api.Ref{ref("b", 9)}},
			{X: z()},
		},
		Heurs: []api.HeurRow{{X: v(), Committed: true}, {X: w()}},
	}
}

// full is rich with no number left.
func full() api.Store {
	s := rich()
	s.Next = mostId + 1
	return s
}

// crowded has a branch with as many puts and takes as there may be, and messages for them and two more.
func crowded() api.Store {
	s := api.Store{Next: 1000, Queues: []api.QueueRow{{Name: "q", Limit: 5}}}
	b := api.BranchRow{X: x()}
	for i := range uint64(mostWork) {
		s.Queues[0].Msgs = append(s.Queues[0].Msgs, message(2*i+1, "m"))
		b.Puts = append(b.Puts, put("q", 0, fmt.Sprint(i)))
		b.Takes = append(b.Takes, ref("q", 2*i+1))
	}
	slices.Reverse(b.Takes)
	s.Queues[0].Msgs = append(s.Queues[0].Msgs, message(500, "n"), message(501, "o"))
	s.Branches = []api.BranchRow{b}
	return s
}

// samples are consistent stores, no two of which are equal.
func samples() []api.Store {
	l := []api.Store{{Next: 1}, {Next: 2}, {Next: mostId}, {Next: mostId + 1}, example(), rich(), full(), crowded()}
	l = append(l, api.Store{Next: 1, Queues: []api.QueueRow{{Name: "q", Limit: 1}}}, api.Store{Next: 1, Branches: []api.BranchRow{{X: x()}}}, api.Store{Next: 1, Heurs: []api.HeurRow{{X: x()}}}, api.Store{Next: 1, Heurs: []api.HeurRow{{X: x(), Committed: true}}})
	every := api.Store{Next: mostId + 1}
	for i, name := range goodNames() {
		every.Queues = append(every.Queues, api.QueueRow{Name: name, Limit: goodIds()[i%len(goodIds())]})
	}
	for _, id := range goodIds() {
		every.Queues[0].Msgs = append(every.Queues[0].Msgs, message(id, "m"))
	}
	for i, p := range goodProps() {
		every.Queues[1].Msgs = append(every.Queues[1].Msgs, api.MsgRow{Id: uint64(i + 1), Props: p, Body: goodBodies()[i%len(goodBodies())]})
	}
	decided := every
	for i, name := range goodXids() {
		every.Branches = append(every.Branches, api.BranchRow{X: name, Puts: []api.Put{{Queue: goodNames()[i%5], Props: goodProps()[i%len(goodProps())], Body: goodBodies()[i%len(goodBodies())]}}})
		decided.Heurs = append(decided.Heurs, api.HeurRow{X: name, Committed: i%3 == 0})
	}
	return append(l, every, decided)
}

// cloned is a store that shares no list with s.
func cloned(s api.Store) api.Store {
	s.Queues = slices.Clone(s.Queues)
	for i := range s.Queues {
		s.Queues[i].Msgs = slices.Clone(s.Queues[i].Msgs)
		for j := range s.Queues[i].Msgs {
			s.Queues[i].Msgs[j].Props.App = clonedValue(s.Queues[i].Msgs[j].Props.App)
		}
	}
	s.Branches = slices.Clone(s.Branches)
	for i := range s.Branches {
		e := clonedEntry(api.Entry{Puts: s.Branches[i].Puts, Takes: s.Branches[i].Takes})
		s.Branches[i].Puts, s.Branches[i].Takes = e.Puts, e.Takes
	}
	s.Heurs = slices.Clone(s.Heurs)
	return s
}

func clonedEntry(e api.Entry) api.Entry {
	e.Puts, e.Takes = slices.Clone(e.Puts), slices.Clone(e.Takes)
	for i := range e.Puts {
		e.Puts[i].Props.App = clonedValue(e.Puts[i].Props.App)
	}
	return e
}

func clonedValue(v api.Value) api.Value {
	v.Keys, v.List = slices.Clone(v.Keys), slices.Clone(v.List)
	for i := range v.List {
		v.List[i] = clonedValue(v.List[i])
	}
	return v
}
