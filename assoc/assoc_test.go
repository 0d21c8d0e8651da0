package assoc_test

import (
	"fmt"
	"math/rand"
	"slices"
	"testing"

	"posthouse/api"
	"posthouse/assoc"
)

// expect asks whether a call answers just that, and whether the model says so, and hands on what it answered.
func expect(t *testing.T, l []api.Assoc, c call, e api.Errno, want ...api.Assoc) []api.Assoc {
	t.Helper()
	got, gotE := check(t, l, c)
	if gotE != e || !equal(got, want) {
		t.Errorf("%v of %s: %s, %d, not %s, %d", c, show(l), show(got), gotE, show(want), e)
	}
	return got
}

func start(session uint64, x api.Xid) call   { return call{"Start", session, x} }
func resume(session uint64, x api.Xid) call  { return call{"Resume", session, x} }
func suspend(session uint64, x api.Xid) call { return call{"Suspend", session, x} }
func end(session uint64, x api.Xid) call     { return call{"End", session, x} }
func leave(session uint64) call              { return call{"Leave", session, api.Xid{}} }
func clearOf(x api.Xid) call                 { return call{"Clear", 0, x} }

func TestP18_2_Examples(t *testing.T) {
	a, b := letter("a"), letter("b")
	l := expect(t, nil, start(1, a), api.OK, active(1, a))
	expect(t, l, start(1, b), api.ErrState)

	l = expect(t, l, suspend(1, a), api.OK, suspended(1, a))
	l = expect(t, l, start(1, b), api.OK, suspended(1, a), active(1, b))
	expect(t, l, resume(1, a), api.ErrState)

	l = expect(t, l, end(1, b), api.OK, suspended(1, a))
	l = expect(t, l, resume(1, a), api.OK, active(1, a))
	expect(t, l, start(1, a), api.ErrState)
}

func TestP18_4_Examples(t *testing.T) {
	a := letter("a")
	l := []api.Assoc{active(1, a)}
	if n := assoc.Count(l, a); n != 1 {
		t.Error(n)
	}
	if x, is := assoc.Active(l, 1); !is || x != a {
		t.Error(showName(x), is)
	}
	expect(t, l, leave(1), api.OK)
}

func TestP18_1_Valid(t *testing.T) {
	for _, l := range valid() {
		checkValid(t, l, true)
	}
}

func TestP18_1_Broken(t *testing.T) {
	for _, l := range broken() {
		checkValid(t, l, false)
	}
}

// Any two sessions, and any two names of one session, in and out of order.
func TestP18_1_Order(t *testing.T) {
	for i, one := range numbers() {
		for j, other := range numbers() {
			checkValid(t, []api.Assoc{active(one, letter("b")), active(other, letter("a"))}, i < j)
			checkValid(t, []api.Assoc{active(one, letter("a")), suspended(other, letter("b"))}, i <= j)
		}
	}
	for i, one := range ladder() {
		for j, other := range ladder() {
			checkValid(t, []api.Assoc{suspended(7, one), suspended(7, other)}, i < j)
			checkValid(t, []api.Assoc{active(7, one), suspended(7, other)}, i < j)
			checkValid(t, []api.Assoc{active(7, one), active(7, other)}, false)
			checkValid(t, []api.Assoc{active(7, one), active(8, other)}, true)
		}
	}
}

func TestP18_1_Names(t *testing.T) {
	for _, x := range badNames() {
		checkValid(t, []api.Assoc{active(1, x)}, false)
	}
	for _, global := range []int{0, 1, 63, 64, 65, 128, 255, 256, 257, 320} {
		for _, branch := range []int{0, 1, 63, 64, 65, 128, 255, 256, 257, 320} {
			x := name(7, full("a")[:min(global, 64)]+string(make([]byte, max(global-64, 0))), string(make([]byte, branch)))
			is := global >= 1 && global <= mostPart && branch <= mostPart
			checkValid(t, []api.Assoc{suspended(1, x)}, is)
			checkValid(t, []api.Assoc{active(1, letter("a")), active(2, x), active(3, letter("b"))}, is)
		}
	}
}

// One association is wrong, wherever it stands in a long list.
func TestP18_1_WrongAnywhere(t *testing.T) {
	names := ladder()
	var whole []api.Assoc
	for _, session := range []uint64{1, 2, 3} {
		for _, x := range names {
			whole = append(whole, suspended(session, x))
		}
	}
	checkValid(t, whole, true)
	spoilt := func(at int, to api.Assoc, is bool) {
		t.Helper()
		l := slices.Clone(whole)
		l[at] = to
		checkValid(t, l, is)
	}
	for at, a := range whole {
		spoilt(at, suspended(0, a.X), false)
		spoilt(at, suspended(a.Session, api.Xid{}), false)
		spoilt(at, active(a.Session, a.X), true)
		spoilt(at, suspended(4, a.X), at == len(whole)-1)
		checkValid(t, slices.Insert(slices.Clone(whole), at, a), false)
		checkValid(t, slices.Insert(slices.Clone(whole), at, active(a.Session, a.X)), false)
	}
}

// Two active ones of one session, wherever they stand; of two sessions each has its own.
func TestP18_1_TwoActive(t *testing.T) {
	var whole []api.Assoc
	for _, session := range []uint64{1, 1 << 33, top} {
		for _, x := range ladder()[:6] {
			whole = append(whole, suspended(session, x))
		}
	}
	for i := range whole {
		for j := range i {
			l := slices.Clone(whole)
			l[i].Suspended, l[j].Suspended = false, false
			checkValid(t, l, l[i].Session != l[j].Session)
			for k := range j {
				l[k].Suspended = false
				checkValid(t, l, l[i].Session != l[j].Session && l[j].Session != l[k].Session)
				l[k].Suspended = true
			}
		}
	}
}

// A list may have any number of associations.
func TestP18_1_Long(t *testing.T) {
	var l []api.Assoc
	for session := range uint64(3000) {
		l = append(l, suspended(session+1, letter("a")), active(session+1, letter("b")))
	}
	if e := assoc.Check(l); e != api.OK {
		t.Error(e)
	}
	if n := assoc.Count(l, letter("a")); n != 3000 {
		t.Error(n)
	}
	got, e := assoc.Start(l, 3001, letter("a"))
	if e != api.OK || len(got) != 6001 || got[6000] != active(3001, letter("a")) {
		t.Error(len(got), e)
	}
	got, e = assoc.Clear(l, letter("b"))
	if e != api.OK || len(got) != 3000 || slices.ContainsFunc(got, func(a api.Assoc) bool { return !a.Suspended }) {
		t.Error(len(got), e)
	}
	l[5999].Session = 2999
	if e := assoc.Check(l); e != api.ErrAssoc {
		t.Error(e)
	}
}

// A new one stands at its place among others by its session, whatever its name is.
func TestP18_2_StartBySession(t *testing.T) {
	sessions := numbers()
	for i, session := range sessions {
		var l []api.Assoc
		for _, other := range slices.Delete(slices.Clone(sessions), i, i+1) {
			l = append(l, active(other, letter("b")))
		}
		for _, x := range []api.Xid{letter("a"), letter("b"), letter("c")} {
			got := expect(t, l, start(session, x), api.OK, slices.Insert(slices.Clone(l), i, active(session, x))...)
			expect(t, got, end(session, x), api.OK, l...)
		}
	}
}

// A new one stands at its place among others by its name, whatever others have it.
func TestP18_2_StartByName(t *testing.T) {
	names := ladder()
	for i, x := range names {
		var l []api.Assoc
		for _, other := range slices.Delete(slices.Clone(names), i, i+1) {
			l = append(l, suspended(7, other))
		}
		expect(t, l, start(7, x), api.OK, slices.Insert(slices.Clone(l), i, active(7, x))...)
		expect(t, l, start(6, x), api.OK, slices.Insert(slices.Clone(l), 0, active(6, x))...)
		expect(t, l, start(8, x), api.OK, append(slices.Clone(l), active(8, x))...)
		beside := slices.Concat([]api.Assoc{active(6, x)}, l, []api.Assoc{active(8, x)})
		expect(t, beside, start(7, x), api.OK, slices.Insert(slices.Clone(beside), i+1, active(7, x))...)
	}
}

func TestP18_2_StartNone(t *testing.T) {
	for _, l := range [][]api.Assoc{nil, {}} {
		for _, session := range numbers() {
			expect(t, l, start(session, letter("a")), api.OK, active(session, letter("a")))
		}
		for _, x := range ladder() {
			expect(t, l, start(7, x), api.OK, active(7, x))
		}
		for _, c := range []call{resume(1, letter("a")), suspend(1, letter("a")), end(1, letter("a"))} {
			expect(t, l, c, api.ErrNone)
		}
	}
}

// Whose associations are all suspended can start and resume; another session's active one does not matter.
func TestP18_2_AllSuspended(t *testing.T) {
	l := several()
	for i, x := range []api.Xid{letter("a"), name(7, "a", "")} {
		expect(t, l, start(5, x), api.ErrThere)
		got := slices.Clone(l)
		got[4+i].Suspended = false
		expect(t, l, resume(5, x), api.OK, got...)
		expect(t, l, suspend(5, x), api.ErrState)
	}
	expect(t, l, start(5, letter("b")), api.OK, slices.Insert(slices.Clone(l), 5, active(5, letter("b")))...)
	expect(t, l, resume(5, letter("b")), api.ErrNone)
	expect(t, l, suspend(5, letter("b")), api.ErrNone)
}

// Each association of a list is changed and taken away, the others being as they were.
func TestP18_2_Each(t *testing.T) {
	for _, l := range valid() {
		for i, a := range l {
			_, busy := activeOf(l, a.Session)
			changed := slices.Clone(l)
			changed[i].Suspended = !a.Suspended
			if a.Suspended {
				expect(t, l, suspend(a.Session, a.X), api.ErrState)
			} else {
				expect(t, l, suspend(a.Session, a.X), api.OK, changed...)
			}
			if busy {
				expect(t, l, resume(a.Session, a.X), api.ErrState)
				expect(t, l, start(a.Session, a.X), api.ErrState)
			} else {
				expect(t, l, resume(a.Session, a.X), api.OK, changed...)
				expect(t, l, start(a.Session, a.X), api.ErrThere)
			}
			expect(t, l, end(a.Session, a.X), api.OK, slices.Delete(slices.Clone(l), i, i+1)...)
		}
	}
}

// Names that differ in one part alone, and such that are the beginning of another, are not the same.
func TestP18_2_NamesApart(t *testing.T) {
	x := name(7, "ab", "cd")
	others := []api.Xid{name(6, "ab", "cd"), name(8, "ab", "cd"), name(7+1<<31, "ab", "cd"), name(7, "a", "cd"), name(7, "abc", "cd"), name(7, "ab\x00", "cd"), name(7, "aB", "cd"), name(7, "ab", "c"), name(7, "ab", "cde"), name(7, "ab", "cd\x00"), name(7, "ab", ""), name(7, "ab", "ce"), name(7, "abc", "d"), name(7, "a", "bcd"), name(7, "cd", "ab"), name(7, "abcd", "")}
	for _, l := range [][]api.Assoc{{suspended(1, x)}, {active(1, x)}} {
		for _, other := range others {
			e := api.ErrNone
			if !l[0].Suspended {
				e = api.ErrState
			}
			expect(t, l, resume(1, other), e)
			expect(t, l, suspend(1, other), api.ErrNone)
			expect(t, l, end(1, other), api.ErrNone)
			expect(t, l, clearOf(other), api.OK, l...)
			checkLooks(t, l, 1, other)
			if there, off := assoc.Has(l, 1, other); there || off || assoc.Count(l, other) != 0 {
				t.Error(showName(other), there, off)
			}
			if l[0].Suspended {
				got, _ := check(t, l, start(1, other))
				if len(got) != 2 {
					t.Error(showName(other), show(got))
				}
			}
		}
	}
}

// Sessions that are the same in their lower bits are not the same.
func TestP18_2_SessionsApart(t *testing.T) {
	a := letter("a")
	for _, session := range []uint64{1, 7, 65535, 1 << 32, top} {
		for _, other := range []uint64{session - 1, session + 1, session ^ 1<<8, session ^ 1<<16, session ^ 1<<32, session ^ 1<<63, -session} {
			if other == 0 || other == session {
				continue
			}
			l := []api.Assoc{active(session, a)}
			expect(t, l, resume(other, a), api.ErrNone)
			expect(t, l, suspend(other, a), api.ErrNone)
			expect(t, l, end(other, a), api.ErrNone)
			expect(t, l, leave(other), api.OK, l...)
			got, _ := check(t, l, start(other, a))
			if len(got) != 2 {
				t.Error(session, other, show(got))
			}
			checkLooks(t, l, other, a)
		}
	}
}

// Where several errors apply, the first one is answered.
func TestP18_2_FirstError(t *testing.T) {
	for _, l := range broken() {
		for _, c := range calls([]uint64{0, 1, 7, top}, []api.Xid{{}, letter("a"), badNames()[4]}) {
			expect(t, l, c, api.ErrAssoc)
		}
	}
	for _, l := range valid() {
		for _, x := range append(badNames(), letter("a"), letter("free")) {
			for _, c := range []call{start(0, x), resume(0, x), suspend(0, x), end(0, x)} {
				expect(t, l, c, api.ErrArg)
			}
		}
		for _, x := range badNames() {
			for _, session := range []uint64{1, 3, 5, 7, 100, top} {
				for _, c := range []call{start(session, x), resume(session, x), suspend(session, x), end(session, x), clearOf(x)} {
					expect(t, l, c, api.ErrXid)
				}
			}
		}
		expect(t, l, leave(0), api.ErrArg)
	}
	l := several()
	expect(t, l, start(3, letter("a")), api.ErrState)
	expect(t, l, start(3, letter("b")), api.ErrState)
	expect(t, l, start(3, letter("free")), api.ErrState)
	expect(t, l, resume(3, letter("a")), api.ErrState)
	expect(t, l, resume(3, letter("b")), api.ErrState)
	expect(t, l, resume(3, letter("free")), api.ErrState)
	expect(t, l, suspend(3, letter("free")), api.ErrNone)
	expect(t, l, start(9, letter("b")), api.ErrState)
	expect(t, l, start(4, letter("b")), api.OK, slices.Insert(several(), 4, active(4, letter("b")))...)
}

func TestP18_3_Leave(t *testing.T) {
	l := several()
	expect(t, l, leave(3), api.OK, l[4:]...)
	expect(t, l, leave(5), api.OK, slices.Delete(several(), 4, 6)...)
	expect(t, l, leave(9), api.OK, l[:6]...)
	for _, session := range []uint64{1, 2, 4, 6, 8, 10, top} {
		expect(t, l, leave(session), api.OK, l...)
		expect(t, nil, leave(session), api.OK)
	}
	for _, l := range valid() {
		for _, session := range numbers() {
			got, _ := check(t, l, leave(session))
			expect(t, got, leave(session), api.OK, got...)
		}
	}
}

func TestP18_3_Clear(t *testing.T) {
	l := several()
	expect(t, l, clearOf(letter("a")), api.OK, l[1], l[2], l[3], l[5], l[6])
	expect(t, l, clearOf(letter("b")), api.OK, l[0], l[2], l[3], l[4], l[5])
	expect(t, l, clearOf(name(0, "b", "a")), api.OK, slices.Delete(several(), 2, 3)...)
	expect(t, l, clearOf(name(7, "a", "b")), api.OK, slices.Delete(several(), 3, 4)...)
	expect(t, l, clearOf(name(7, "a", "")), api.OK, slices.Delete(several(), 5, 6)...)
	for _, x := range []api.Xid{letter("c"), name(7, "a", "c"), name(7, "b", ""), name(8, "a", ""), name(0, "a", "b")} {
		expect(t, l, clearOf(x), api.OK, l...)
		expect(t, nil, clearOf(x), api.OK)
	}
	for _, l := range valid() {
		for _, x := range ladder() {
			got, _ := check(t, l, clearOf(x))
			expect(t, got, clearOf(x), api.OK, got...)
		}
	}
}

// checkActive and checkHas ask whether Active and Has answer just that.
func checkActive(t *testing.T, l []api.Assoc, session uint64, x api.Xid, want bool) {
	t.Helper()
	if got, is := assoc.Active(l, session); got != x || is != want {
		t.Errorf("Active of %s, %d: %s, %v", show(l), session, showName(got), is)
	}
}

func checkHas(t *testing.T, l []api.Assoc, session uint64, x api.Xid, want, off bool) {
	t.Helper()
	if there, suspended := assoc.Has(l, session, x); there != want || suspended != off {
		t.Errorf("Has of %s, %d, %s: %v, %v", show(l), session, showName(x), there, suspended)
	}
}

func TestP18_4_Several(t *testing.T) {
	l := several()
	checkActive(t, l, 3, letter("b"), true)
	checkActive(t, l, 9, letter("b"), true)
	for _, session := range []uint64{0, 1, 2, 4, 5, 6, 8, 10, top} {
		checkActive(t, l, session, api.Xid{}, false)
	}
	for _, a := range l {
		checkHas(t, l, a.Session, a.X, true, a.Suspended)
	}
	checkHas(t, l, 5, letter("b"), false, false)
	checkHas(t, l, 9, letter("a"), false, false)
	checkHas(t, l, 4, letter("a"), false, false)
	checkHas(t, l, 0, letter("a"), false, false)
	for _, x := range badNames() {
		checkHas(t, l, 3, x, false, false)
	}
	for _, c := range []struct {
		x api.Xid
		n int
	}{{letter("a"), 2}, {letter("b"), 2}, {name(0, "b", "a"), 1}, {name(7, "a", "b"), 1}, {name(7, "a", ""), 1}, {letter("c"), 0}, {name(7, "b", ""), 0}, {api.Xid{}, 0}} {
		if n := assoc.Count(l, c.x); n != c.n {
			t.Errorf("Count of %s: %d", showName(c.x), n)
		}
	}
}

// Of a list that is not valid nothing is told, though what is asked stands in it.
func TestP18_4_Broken(t *testing.T) {
	for _, l := range broken() {
		sessions, names := around(l)
		for _, session := range sessions {
			checkActive(t, l, session, api.Xid{}, false)
			for _, x := range names {
				checkHas(t, l, session, x, false, false)
				if n := assoc.Count(l, x); n != 0 {
					t.Errorf("Count of %s, %s: %d", show(l), showName(x), n)
				}
			}
		}
	}
}

// All calls of all lists, each around what stands in it.
func TestP18_4_All(t *testing.T) {
	for _, l := range slices.Concat(valid(), broken()) {
		sessions, names := around(l)
		checkAll(t, l, sessions[:min(len(sessions), 9)], names[:min(len(names), 9)])
	}
}

// All lists of up to three associations of two sessions and two names, and of such as there may not be.
func TestP18_1_AllShortLists(t *testing.T) {
	names := []api.Xid{{}, letter("a"), letter("b")}
	var all []api.Assoc
	for _, session := range []uint64{0, 1, 2} {
		for _, x := range names {
			all = append(all, active(session, x), suspended(session, x))
		}
	}
	lists := [][]api.Assoc{nil}
	good := 0
	for range 3 {
		for _, l := range lists {
			for _, a := range all {
				lists = append(lists, append(slices.Clone(l), a))
			}
		}
		lists = distinct(lists)
	}
	for _, l := range lists {
		checkValid(t, l, judged(l))
		if judged(l) {
			good++
			checkAll(t, l, []uint64{0, 1, 2, 3}, append(names, letter("c")))
		} else {
			checkAll(t, l, []uint64{0, 1}, names[:2])
		}
	}
	// Of each session: none, a, b, both but not both active; not all four.
	if want := 8*8 - 3*3; len(lists) != 1+18+18*18+18*18*18 || good != want {
		t.Error(len(lists), good)
	}
}

// distinct are the lists, each once.
func distinct(lists [][]api.Assoc) [][]api.Assoc {
	seen := map[string]bool{}
	var out [][]api.Assoc
	for _, l := range lists {
		if s := fmt.Sprintf("%q", fmt.Sprint(l)); !seen[s] {
			seen[s] = true
			out = append(out, l)
		}
	}
	return out
}

// eachOf are all valid lists of one session with three names.
func eachOf(session uint64) [][]api.Assoc {
	lists := [][]api.Assoc{nil}
	for _, x := range []api.Xid{letter("a"), name(0, "a", "b"), letter("ab")} {
		for _, l := range lists {
			lists = append(lists, append(slices.Clone(l), suspended(session, x)))
			if _, busy := activeOf(l, session); !busy {
				lists = append(lists, append(slices.Clone(l), active(session, x)))
			}
		}
	}
	return lists
}

// All valid lists of three sessions, with up to three names each.
func TestP18_2_AllOfThreeSessions(t *testing.T) {
	firsts, seconds, thirds := eachOf(1), eachOf(2), eachOf(top)
	if len(firsts) != 20 {
		t.Fatal(len(firsts))
	}
	few := calls([]uint64{2, 3}, []api.Xid{letter("a"), name(0, "a", "b"), letter("ab"), letter("aa")})
	for _, first := range firsts {
		for _, second := range seconds {
			for i, third := range thirds {
				l := slices.Concat(first, second, third)
				checkValid(t, l, true)
				for _, c := range few {
					check(t, l, c)
				}
				if i%5 == 0 {
					checkAll(t, l, []uint64{1, top}, []api.Xid{letter("a"), letter("ab")})
				}
			}
		}
	}
}

// drawn is any list: of few sessions and names, most often in order, so that it is valid about as often as not.
func drawn(random *rand.Rand) []api.Assoc {
	var l []api.Assoc
	for range random.Intn(9) {
		a := api.Assoc{Session: uint64(random.Intn(5) + 1), X: ladder()[6+random.Intn(12)], Suspended: random.Intn(4) > 0}
		switch random.Intn(80) {
		case 0:
			a.Session = 0
		case 1:
			a.X = badNames()[random.Intn(len(badNames()))]
		}
		l = append(l, a)
	}
	if random.Intn(8) > 0 {
		slices.SortStableFunc(l, func(a, b api.Assoc) int {
			if before(a, b) {
				return -1
			}
			if before(b, a) {
				return 1
			}
			return 0
		})
	}
	return l
}

func TestP18_4_RandomLists(t *testing.T) {
	random := rand.New(rand.NewSource(18))
	good, bad := 0, 0
	for range 4000 {
		l := drawn(random)
		if judged(l) {
			good++
		} else {
			bad++
		}
		sessions, names := around(l)
		checkAll(t, l, sessions[:min(len(sessions), 6)], names[:min(len(names), 7)])
	}
	if good < 1000 || bad < 1000 {
		t.Error(good, bad)
	}
}

// drawnCall is any call, now and then a wrong one.
func drawnCall(random *rand.Rand, sessions []uint64, names []api.Xid) call {
	c := call{
		what:    []string{"Start", "Start", "Start", "Start", "Resume", "Suspend", "Suspend", "Suspend", "Suspend", "End"}[random.Intn(10)],
		session: sessions[random.Intn(len(sessions))],
		x:       names[random.Intn(len(names))],
	}
	switch random.Intn(60) {
	case 0:
		c.session = 0
	case 1:
		c.x = badNames()[random.Intn(len(badNames()))]
	case 2:
		c = leave(c.session)
	case 3:
		c = clearOf(c.x)
	}
	return c
}

// Lists that are built up call by call.
func TestP18_5_RandomCalls(t *testing.T) {
	random := rand.New(rand.NewSource(5))
	seen := map[string]int{}
	most := 0
	for range 40 {
		sessions := numbers()[random.Intn(18):][:1+random.Intn(4)]
		names := ladder()[random.Intn(20):][:1+random.Intn(9)]
		var l []api.Assoc
		for range 300 {
			c := drawnCall(random, sessions, names)
			got, e := check(t, l, c)
			seen[fmt.Sprint(c.what, int(e))]++
			if e == api.OK {
				l = got
			}
			most = max(most, len(l))
			checkLooks(t, l, sessions[random.Intn(len(sessions))], names[random.Intn(len(names))])
		}
	}
	for what, errors := range map[string][]api.Errno{
		"Start": {api.OK, api.ErrArg, api.ErrXid, api.ErrState, api.ErrThere}, "Resume": {api.OK, api.ErrArg, api.ErrXid, api.ErrState, api.ErrNone},
		"Suspend": {api.OK, api.ErrArg, api.ErrXid, api.ErrState, api.ErrNone}, "End": {api.OK, api.ErrArg, api.ErrXid, api.ErrNone}, "Leave": {api.OK}, "Clear": {api.OK},
	} {
		for _, e := range errors {
			if n := seen[fmt.Sprint(what, int(e))]; n < 10 {
				t.Errorf("%s answers %d only %d times", what, e, n)
			}
		}
	}
	if most < 12 {
		t.Error(most)
	}
}

// Resume undoes Suspend, Suspend undoes Resume, and End undoes Start.
func TestP18_5_Undone(t *testing.T) {
	random := rand.New(rand.NewSource(6))
	lists := valid()
	for range 500 {
		if l := drawn(random); judged(l) {
			lists = append(lists, l)
		}
	}
	undone := map[string]int{}
	for _, l := range lists {
		sessions, names := around(l)
		for _, session := range sessions {
			for _, x := range names {
				for what, by := range map[string]string{"Suspend": "Resume", "Resume": "Suspend", "Start": "End"} {
					got, e := check(t, l, call{what, session, x})
					if e == api.OK {
						expect(t, got, call{by, session, x}, api.OK, l...)
						undone[what]++
					}
				}
			}
		}
	}
	if undone["Suspend"] < 300 || undone["Resume"] < 300 || undone["Start"] < 300 {
		t.Error(undone)
	}
}

// roomy is the list, with room behind it in which other associations stand.
func roomy(l []api.Assoc) []api.Assoc {
	behind := active(77, letter("behind"))
	out := append(slices.Clone(l), behind, behind, behind)
	return out[:len(l)]
}

// fill changes a list, with the room behind it.
func fill(l []api.Assoc) {
	l = l[:cap(l)]
	for i := range l {
		l[i] = active(66, letter("spoilt"))
	}
}

// What is passed in is not changed, nor is the memory behind it.
func TestP18_5_NothingChanged(t *testing.T) {
	for _, l := range slices.Concat(valid(), broken()) {
		l = roomy(l)
		was := slices.Clone(l[:cap(l)])
		sessions, names := around(l)
		for _, session := range sessions {
			for _, x := range names {
				for _, c := range calls([]uint64{session}, []api.Xid{x}) {
					c.does(l)
				}
				assoc.Check(l)
				assoc.Active(l, session)
				assoc.Has(l, session, x)
				assoc.Count(l, x)
			}
		}
		if !equal(l[:cap(l)], was) {
			t.Errorf("%s is changed to %s", show(was), show(l[:cap(l)]))
		}
	}
}

// A list that is answered shares no memory with what was passed in, nor with another answer, its room included.
func TestP18_5_NewMemory(t *testing.T) {
	for _, l := range valid() {
		l = roomy(l)
		was := slices.Clone(l[:cap(l)])
		sessions, names := around(l)
		for _, c := range calls(sessions[:min(len(sessions), 8)], names[:min(len(names), 8)]) {
			got, e := c.does(l)
			other, _ := c.does(l)
			want := slices.Clone(got)
			fill(other)
			if !equal(l[:cap(l)], was) {
				t.Fatalf("%v of %s: what was passed in is changed with the answer", c, show(was))
			}
			if !equal(got, want) {
				t.Fatalf("%v of %s: two answers are one", c, show(was))
			}
			if e != api.OK && got != nil {
				t.Errorf("%v of %s: %s with %d", c, show(was), show(got), e)
			}
			again := slices.Clone(l)
			got, _ = c.does(again)
			fill(again)
			if !equal(got, want) {
				t.Fatalf("%v of %s: the answer is changed with what was passed in", c, show(was))
			}
		}
	}
}

// Whoever appends to an answer, or starts twice from it, finds both apart.
func TestP18_5_Appends(t *testing.T) {
	var l []api.Assoc
	for session := range uint64(20) {
		l, _ = assoc.Start(l, session+1, letter("m"))
		a, _ := assoc.Start(l, 50, letter("a"))
		b, _ := assoc.Start(l, 50, letter("b"))
		c, d := append(l, active(50, letter("c"))), append(slices.Clip(l), active(50, letter("d")))
		for i, x := range []api.Xid{a[session+1].X, b[session+1].X, c[session+1].X, d[session+1].X} {
			if x != letter(string(rune('a'+i))) {
				t.Error(session, i, showName(x))
			}
		}
		if len(l) != int(session)+1 || !judged(l) {
			t.Fatal(show(l))
		}
	}
}
