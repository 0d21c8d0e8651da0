package assoc_test

import (
	"fmt"
	"math"
	"reflect"
	"slices"
	"strings"
	"testing"

	"posthouse/api"
	"posthouse/assoc"
)

// mostPart is how many bytes a part of a name has at most, as chapter 4 tells it.
const mostPart = 64

const top = math.MaxUint64

// isXid tells whether x is a valid name, by the words of layer 4.
func isXid(x api.Xid) bool {
	return 1 <= len(x.Global) && len(x.Global) <= mostPart && len(x.Branch) <= mostPart
}

func sameName(a, b api.Xid) bool {
	return a.Format == b.Format && a.Global == b.Global && a.Branch == b.Branch
}

// bytesBefore tells whether a precedes b byte by byte, a proper prefix ahead of the longer string.
func bytesBefore(a, b string) bool {
	for i := 0; i < len(a) && i < len(b); i++ {
		if a[i] != b[i] {
			return a[i] < b[i]
		}
	}
	return len(a) < len(b)
}

// nameBefore is the order of names, by the words of layer 4.
func nameBefore(a, b api.Xid) bool {
	if a.Format != b.Format {
		return a.Format < b.Format
	}
	if a.Global != b.Global {
		return bytesBefore(a.Global, b.Global)
	}
	return bytesBefore(a.Branch, b.Branch)
}

// before is the order of a list: by Session and, within one session, by X.
func before(a, b api.Assoc) bool {
	if a.Session != b.Session {
		return a.Session < b.Session
	}
	return nameBefore(a.X, b.X)
}

// judged tells whether l is valid, by the chapter's words: each association alone, and each two of them.
func judged(l []api.Assoc) bool {
	for i, b := range l {
		if b.Session == 0 || !isXid(b.X) {
			return false
		}
		for _, a := range l[:i] {
			twoActive := a.Session == b.Session && !a.Suspended && !b.Suspended
			if !before(a, b) || twoActive {
				return false
			}
		}
	}
	return true
}

// call is a call that answers a list. Leave takes no x, and Clear no session.
type call struct {
	what    string
	session uint64
	x       api.Xid
}

func (c call) String() string {
	return fmt.Sprintf("%s(%d, %s)", c.what, c.session, showName(c.x))
}

// does makes the call.
func (c call) does(l []api.Assoc) ([]api.Assoc, api.Errno) {
	switch c.what {
	case "Start":
		return assoc.Start(l, c.session, c.x)
	case "Resume":
		return assoc.Resume(l, c.session, c.x)
	case "Suspend":
		return assoc.Suspend(l, c.session, c.x)
	case "End":
		return assoc.End(l, c.session, c.x)
	case "Leave":
		return assoc.Leave(l, c.session)
	}
	return assoc.Clear(l, c.x)
}

// wants is what the chapter's words say of the call.
func (c call) wants(l []api.Assoc) ([]api.Assoc, api.Errno) {
	switch {
	case !judged(l):
		return nil, api.ErrAssoc
	case c.what != "Clear" && c.session == 0:
		return nil, api.ErrArg
	case c.what != "Leave" && !isXid(c.x):
		return nil, api.ErrXid
	}
	_, active := activeOf(l, c.session)
	there, suspended := hasOf(l, c.session, c.x)
	switch {
	case c.what == "Start" && active:
		return nil, api.ErrState
	case c.what == "Start" && there:
		return nil, api.ErrThere
	case c.what == "Resume" && active:
		return nil, api.ErrState
	case c.what == "Resume" && !there:
		return nil, api.ErrNone
	case c.what == "Suspend" && !there:
		return nil, api.ErrNone
	case c.what == "Suspend" && suspended:
		return nil, api.ErrState
	case c.what == "End" && !there:
		return nil, api.ErrNone
	}
	return c.made(l), api.OK
}

// made is what a call that is not refused makes of l: each association is dropped, changed or taken over, and a new one stands ahead of the first that it precedes.
func (c call) made(l []api.Assoc) []api.Assoc {
	var out []api.Assoc
	one := api.Assoc{Session: c.session, X: c.x}
	placed := c.what != "Start"
	for _, a := range l {
		if !placed && before(one, a) {
			out = append(out, one)
			placed = true
		}
		session, name := a.Session == c.session, sameName(a.X, c.x)
		if c.what == "Leave" && session || c.what == "Clear" && name || c.what == "End" && session && name {
			continue
		}
		if session && name && (c.what == "Resume" || c.what == "Suspend") {
			a.Suspended = c.what == "Suspend"
		}
		out = append(out, a)
	}
	if !placed {
		out = append(out, one)
	}
	return out
}

// activeOf is what the chapter's words say of Active.
func activeOf(l []api.Assoc, session uint64) (api.Xid, bool) {
	if judged(l) {
		for _, a := range l {
			if a.Session == session && !a.Suspended {
				return a.X, true
			}
		}
	}
	return api.Xid{}, false
}

// hasOf is what the chapter's words say of Has.
func hasOf(l []api.Assoc, session uint64, x api.Xid) (there, suspended bool) {
	if judged(l) {
		for _, a := range l {
			if a.Session == session && sameName(a.X, x) {
				return true, a.Suspended
			}
		}
	}
	return false, false
}

// countOf is what the chapter's words say of Count.
func countOf(l []api.Assoc, x api.Xid) int {
	n := 0
	if judged(l) {
		for _, a := range l {
			if sameName(a.X, x) {
				n++
			}
		}
	}
	return n
}

func showPart(s string) string { return fmt.Sprintf("%.20q(%d)", s, len(s)) }

func showName(x api.Xid) string {
	return fmt.Sprintf("%d.%s.%s", x.Format, showPart(x.Global), showPart(x.Branch))
}

// show tells a list in a line that is not too long.
func show(l []api.Assoc) string {
	var b strings.Builder
	fmt.Fprintf(&b, "%d:", len(l))
	for _, a := range l[:min(len(l), 12)] {
		fmt.Fprintf(&b, " [%d %s", a.Session, showName(a.X))
		if a.Suspended {
			b.WriteString(" suspended")
		}
		b.WriteString("]")
	}
	return b.String()
}

// equal tells whether two lists are, nil and empty being the same.
func equal(a, b []api.Assoc) bool {
	return len(a) == len(b) && (len(a) == 0 || reflect.DeepEqual(a, b))
}

// check asks whether a call answers as the chapter words it, and hands on what it answered.
func check(t *testing.T, l []api.Assoc, c call) ([]api.Assoc, api.Errno) {
	t.Helper()
	got, e := c.does(l)
	want, wantE := c.wants(l)
	if e != wantE || !equal(got, want) {
		t.Errorf("%v of %s: %s, %d, not %s, %d", c, show(l), show(got), e, show(want), wantE)
	}
	if assoc.Check(got) != api.OK || !judged(got) {
		t.Errorf("%v of %s: not valid: %s", c, show(l), show(got))
	}
	return got, e
}

// checkValid asks whether Check judges l as it is.
func checkValid(t *testing.T, l []api.Assoc, is bool) {
	t.Helper()
	want := api.OK
	if !is {
		want = api.ErrAssoc
	}
	if e := assoc.Check(l); e != want {
		t.Errorf("Check of %s: %d", show(l), e)
	}
	if judged(l) != is {
		t.Errorf("the model's word on %s: %v", show(l), !is)
	}
}

// checkLooks asks whether what only looks at l answers as the chapter words it.
func checkLooks(t *testing.T, l []api.Assoc, session uint64, x api.Xid) {
	t.Helper()
	checkValid(t, l, judged(l))
	want, wantIs := activeOf(l, session)
	if got, is := assoc.Active(l, session); is != wantIs || got != want {
		t.Errorf("Active of %s, %d: %s, %v", show(l), session, showName(got), is)
	}
	wantThere, wantSuspended := hasOf(l, session, x)
	if there, suspended := assoc.Has(l, session, x); there != wantThere || suspended != wantSuspended {
		t.Errorf("Has of %s, %d, %s: %v, %v", show(l), session, showName(x), there, suspended)
	}
	if n := assoc.Count(l, x); n != countOf(l, x) {
		t.Errorf("Count of %s, %s: %d", show(l), showName(x), n)
	}
}

// calls are all calls that answer a list, for each of the sessions with each of the names.
func calls(sessions []uint64, names []api.Xid) []call {
	var l []call
	for _, session := range sessions {
		for _, x := range names {
			for _, what := range []string{"Start", "Resume", "Suspend", "End"} {
				l = append(l, call{what, session, x})
			}
		}
		l = append(l, call{"Leave", session, api.Xid{}})
	}
	for _, x := range names {
		l = append(l, call{"Clear", 0, x})
	}
	return l
}

// checkAll asks whether all calls answer as the chapter words it, for each of the sessions with each of the names.
func checkAll(t *testing.T, l []api.Assoc, sessions []uint64, names []api.Xid) {
	t.Helper()
	for _, c := range calls(sessions, names) {
		check(t, l, c)
	}
	for _, session := range sessions {
		for _, x := range names {
			checkLooks(t, l, session, x)
		}
	}
}

// around are the sessions and the names of l, and such that have no association, or that nothing has.
func around(l []api.Assoc) ([]uint64, []api.Xid) {
	sessions := []uint64{0, 1, 2, top}
	names := []api.Xid{{}, name(0, "a", ""), name(0, "", "b"), name(7, "free", "")}
	for _, a := range l {
		if !slices.Contains(sessions, a.Session) {
			sessions = append(sessions, a.Session)
		}
		if !slices.Contains(names, a.X) {
			names = append(names, a.X)
		}
	}
	return sessions, names
}

// name is a name by its three fields.
func name(format uint32, global, branch string) api.Xid {
	return api.Xid{Format: format, Global: global, Branch: branch}
}

func letter(global string) api.Xid { return name(0, global, "") }

// active and suspended are associations.
func active(session uint64, x api.Xid) api.Assoc { return api.Assoc{Session: session, X: x} }

func suspended(session uint64, x api.Xid) api.Assoc {
	return api.Assoc{Session: session, X: x, Suspended: true}
}

// full is a part of MaxXid bytes.
func full(of string) string { return strings.Repeat(of, mostPart) }

// ladder is valid names in their order, each pair of neighbours at an edge of it.
func ladder() []api.Xid {
	return []api.Xid{
		name(0, "\x00", ""), name(0, "\x00", "\x00"), name(0, "\x00", full("\x00")), name(0, "\x00", "\x01"), name(0, "\x00\x00", ""), name(0, full("\x00"), ""),
		name(0, "a", ""), name(0, "a", "b"), name(0, "a", "bb"), name(0, "a", "c"), name(0, "a", "\x7f"), name(0, "a", "\x80"), name(0, "a", "\xff"), name(0, "a", full("\xff")),
		name(0, "ab", ""), name(0, "ab", "a"), name(0, "b", "a"), name(0, "\x80", ""), name(0, full("\xff"), full("\xff")),
		name(1, "\x00", ""), name(1, "a", "b"), name(255, "a", "b"), name(256, "a", ""), name(1<<31-1, "z", ""), name(1<<31, "b", "y"), name(1<<31+1, "1", ""),
		name(math.MaxUint32, "\x00", ""), name(math.MaxUint32, "é", "\n. "), name(math.MaxUint32, full("\xff"), full("\xff")),
	}
}

// badNames are no valid names, each for one reason but the first.
func badNames() []api.Xid {
	over := full("a") + "a"
	return []api.Xid{
		{}, name(7, "", ""), name(0, "", "b"), name(math.MaxUint32, "", full("b")), name(7, over, ""), name(7, over, "b"), name(0, over, over), name(7, "a", over), name(7, full("a"), over),
		name(7, "a", strings.Repeat("b", 256)), name(7, strings.Repeat("a", 257), ""), name(7, strings.Repeat("a", 1<<16+1), "b"),
	}
}

// numbers are sessions in their order.
func numbers() []uint64 {
	return []uint64{1, 2, 3, 9, 10, 255, 256, 257, 65535, 65536, 65537, 1<<31 - 1, 1 << 31, 1<<32 - 1, 1 << 32, 1<<32 + 1, 1<<53 + 1, 1<<63 - 1, 1 << 63, 1<<63 + 1, top - 1, top}
}

// several has three sessions: one with an active association ahead of, between or behind suspended ones, one whose associations are all suspended, and one with its active one alone.
func several() []api.Assoc {
	return []api.Assoc{
		suspended(3, letter("a")), active(3, letter("b")), suspended(3, name(0, "b", "a")), suspended(3, name(7, "a", "b")),
		suspended(5, letter("a")), suspended(5, name(7, "a", "")),
		active(9, letter("b")),
	}
}

// valid are valid lists.
func valid() [][]api.Assoc {
	l := [][]api.Assoc{nil, {}, several(), {active(1, letter("a"))}, {suspended(1, letter("a"))}, {active(top, letter("a"))}, {suspended(top, letter("a")), active(top, letter("b"))}}
	for _, x := range ladder() {
		l = append(l, []api.Assoc{active(7, x)}, []api.Assoc{suspended(6, x), suspended(7, x)}, []api.Assoc{active(6, x), active(7, x)})
	}
	var of, off, one, rest []api.Assoc
	for _, session := range numbers() {
		of = append(of, active(session, letter("a")))
		off = append(off, suspended(session, letter("a")), active(session, letter("b")))
	}
	for i, x := range ladder() {
		one = append(one, api.Assoc{Session: 1 << 40, X: x, Suspended: i != 11})
		rest = append(rest, suspended(1, x))
	}
	return append(l, of, off, one, rest)
}

// broken are lists that are not valid, each for one reason.
func broken() [][]api.Assoc {
	a, b := letter("a"), letter("b")
	l := [][]api.Assoc{
		{{}}, {active(0, a)}, {suspended(0, a)}, {active(0, a), active(1, a)}, {suspended(0, a), suspended(0, b), active(1, a)},
		{active(2, a), active(1, a)}, {suspended(2, a), suspended(1, b)}, {active(2, a), active(1, b)}, {active(1, a), active(3, a), active(2, a)}, {active(top, a), active(1, a)}, {active(1<<63, a), active(1, a)}, {active(1<<32, a), active(1, a)},
		{suspended(1, b), suspended(1, a)}, {active(1, b), suspended(1, a)}, {suspended(1, b), active(1, a)}, {active(1, a), suspended(2, b), suspended(2, a)}, {suspended(1, b), suspended(1, a), active(2, a)},
		{suspended(1, a), suspended(1, a)}, {active(1, a), suspended(1, a)}, {suspended(1, a), active(1, a)}, {active(1, a), active(1, a)}, {active(1, a), suspended(2, a), suspended(2, a)},
		{active(1, a), active(1, b)}, {active(1, a), suspended(1, b), active(1, letter("c"))}, {suspended(1, a), active(1, b), active(1, letter("c"))}, {active(1, a), active(2, a), active(2, b)}, {active(1, a), active(1, b), active(2, a)}, {active(top, a), active(top, b)},
		{suspended(1, a), suspended(2, a), suspended(1, b)}, {active(1, a), active(2, a), suspended(1, b)}, {active(1, a), active(2, a), active(1, b)}, {suspended(1, a), suspended(2, a), suspended(1, a)},
	}
	for _, x := range badNames() {
		l = append(l, []api.Assoc{active(1, x)}, []api.Assoc{suspended(1, x)}, []api.Assoc{active(1, letter("a")), active(2, x)})
	}
	names := ladder()
	for i := range names[1:] {
		l = append(l, []api.Assoc{suspended(7, names[i+1]), suspended(7, names[i])}, []api.Assoc{active(7, names[i]), active(7, names[i+1])}, []api.Assoc{suspended(7, names[i]), suspended(7, names[i])})
	}
	sessions := numbers()
	for i := range sessions[1:] {
		l = append(l, []api.Assoc{active(sessions[i+1], letter("a")), active(sessions[i], letter("b"))})
	}
	return l
}
