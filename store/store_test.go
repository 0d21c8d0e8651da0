package store_test

import (
	"fmt"
	"math"
	"math/rand"
	"slices"
	"strings"
	"testing"

	"posthouse/api"
	"posthouse/store"
)

func TestP14_1_Samples(t *testing.T) {
	for _, s := range samples() {
		checkIs(t, s, true)
	}
	checkNot(t, api.Store{})
}

func TestP14_1_Next(t *testing.T) {
	for _, next := range append(append(goodIds(), badIds()...), mostId+1) {
		is := 1 <= next && next <= mostId+1
		checkIs(t, api.Store{Next: next}, is)
		s := cloned(rich())
		s.Next = next
		checkIs(t, s, is && next > 9)
	}
}

// checkEach asks whether the store that each row makes is consistent for good ones, and not for others.
func checkEach[T any](t *testing.T, made func(T) api.Store, good []T, bad []T) {
	t.Helper()
	for _, one := range good {
		checkIs(t, made(one), true)
	}
	for _, one := range bad {
		checkIs(t, made(one), false)
	}
}

// inQueue is a store with one message.
func inQueue(m api.MsgRow) api.Store {
	return api.Store{Next: mostId + 1, Queues: []api.QueueRow{{Name: "q", Limit: 1, Msgs: []api.MsgRow{m}}}}
}

// inBranch is a store with one branch, and messages from 1 to 200 that it may take.
func inBranch(b api.BranchRow) api.Store {
	s := api.Store{Next: 300, Queues: []api.QueueRow{{Name: "p", Limit: 1}, {Name: "q", Limit: 1}}, Branches: []api.BranchRow{b}}
	for i := range uint64(200) {
		s.Queues[1].Msgs = append(s.Queues[1].Msgs, message(i+1, "m"))
	}
	return s
}

func TestP14_1_Queues(t *testing.T) {
	checkEach(t, func(name string) api.Store {
		return api.Store{Next: 1, Queues: []api.QueueRow{{Name: name, Limit: 1}}}
	}, goodNames(), badNames())
	checkEach(t, func(limit uint64) api.Store {
		return api.Store{Next: 1, Queues: []api.QueueRow{{Name: "q", Limit: limit}}}
	}, goodIds(), badIds())
}

// A limit is not held against the number of messages.
func TestP14_1_MoreThanTheLimit(t *testing.T) {
	s := example()
	s.Queues[0].Limit = 1
	checkIs(t, s, true)
	s.Branches = []api.BranchRow{{X: x(), Puts: []api.Put{put("q", 0, "")}}}
	checkIs(t, s, true)
}

func TestP14_1_Messages(t *testing.T) {
	checkEach(t, func(id uint64) api.Store { return inQueue(message(id, "")) }, goodIds(), badIds())
	checkEach(t, func(p api.Props) api.Store { return inQueue(api.MsgRow{Id: 1, Props: p}) }, goodProps(), append(greatProps(), wrongProps()...))
	checkEach(t, func(body string) api.Store { return inQueue(message(1, body)) }, goodBodies(), badBodies())
}

func TestP14_1_NumbersBelowNext(t *testing.T) {
	for _, next := range []uint64{1, 2, 3, 9, 1 << 32, mostId, mostId + 1} {
		for _, id := range []uint64{0, 1, 2, next - 2, next - 1, next, next + 1} {
			s := inQueue(message(id, ""))
			s.Next = next
			checkIs(t, s, 1 <= id && id < next)
			s = inQueue(message(1, ""))
			s.Queues[0].Msgs = append(s.Queues[0].Msgs, message(id, ""))
			s.Next = next
			checkIs(t, s, next > 1 && 1 < id && id < next)
		}
	}
}

// The same number in two queues is no fault by itself.
func TestP14_1_SameNumberTwice(t *testing.T) {
	s := example()
	s.Queues = append(s.Queues, api.QueueRow{Name: "r", Limit: 1, Msgs: []api.MsgRow{message(1, ""), message(2, "")}})
	s.Branches = []api.BranchRow{{X: x(), Takes: []api.Ref{ref("q", 1), ref("r", 1)}}}
	checkIs(t, s, true)
}

// All lists of up to three rows: only ascending ones are in order.
func checkOrder[T any](t *testing.T, made func([]T) api.Store, rows []T) {
	t.Helper()
	n := len(rows)
	for i := range n {
		for j := range n {
			checkIs(t, made([]T{rows[i], rows[j]}), i < j)
			for _, k := range []int{0, j - 1, j, j + 1, n - 1} {
				if 0 <= k && k < n {
					checkIs(t, made([]T{rows[i], rows[j], rows[k]}), i < j && j < k)
				}
			}
		}
	}
	checkIs(t, made(nil), true)
	checkIs(t, made([]T{}), true)
	checkIs(t, made(rows), true)
}

func TestP14_1_Order(t *testing.T) {
	checkOrder(t, func(l []string) api.Store {
		s := api.Store{Next: 1}
		for i, name := range l {
			s.Queues = append(s.Queues, api.QueueRow{Name: name, Limit: uint64(9 - i%9)})
		}
		return s
	}, goodNames())
	checkOrder(t, func(l []uint64) api.Store {
		s := inQueue(message(1, ""))
		s.Queues[0].Msgs = nil
		for i, id := range l {
			s.Queues[0].Msgs = append(s.Queues[0].Msgs, message(id, fmt.Sprint(9-i)))
		}
		return s
	}, goodIds())
	checkOrder(t, func(l []api.Xid) api.Store {
		s := api.Store{Next: 1}
		for _, x := range l {
			s.Branches = append(s.Branches, api.BranchRow{X: x})
		}
		return s
	}, goodXids())
	checkOrder(t, func(l []api.Xid) api.Store {
		s := api.Store{Next: 1}
		for i, x := range l {
			s.Heurs = append(s.Heurs, api.HeurRow{X: x, Committed: i == 0})
		}
		return s
	}, goodXids())
}

func TestP14_1_Names(t *testing.T) {
	checkEach(t, func(x api.Xid) api.Store { return inBranch(api.BranchRow{X: x}) }, goodXids(), badXids())
	checkEach(t, func(x api.Xid) api.Store { return api.Store{Next: 1, Heurs: []api.HeurRow{{X: x}}} }, goodXids(), badXids())
}

func TestP14_1_Puts(t *testing.T) {
	with := func(p api.Put) api.Store {
		return inBranch(api.BranchRow{X: x(), Puts: []api.Put{put("p", 0, ""), p}})
	}
	checkEach(t, func(p api.Props) api.Store { return with(api.Put{Queue: "q", Props: p}) }, goodProps(), append(greatProps(), wrongProps()...))
	checkEach(t, func(body string) api.Store { return with(put("q", 0, body)) }, goodBodies(), badBodies())
	checkEach(t, func(id uint64) api.Store { return with(put("q", id, "")) }, []uint64{0}, append(goodIds(), badIds()[1:]...))
	checkEach(t, func(name string) api.Store { return with(put(name, 0, "")) }, []string{"p", "q"}, append(badNames(), "pq", "o", "r", "Q", "qq"))
}

func TestP14_1_Takes(t *testing.T) {
	with := func(r api.Ref) api.Store {
		return inBranch(api.BranchRow{X: x(), Takes: []api.Ref{ref("q", 3), r}})
	}
	checkEach(t, func(id uint64) api.Store { return with(ref("q", id)) }, []uint64{1, 2, 4, 199, 200}, append(badIds(), 3, 201, 299, 300, mostId))
	checkEach(t, func(name string) api.Store { return with(ref(name, 1)) }, []string{"q"}, append(badNames(), "p", "qq", "o", "r", "Q"))
}

func TestP14_1_TakenTwice(t *testing.T) {
	names := goodXids()[:4]
	for i := range 6 {
		for j := range 6 {
			b := api.BranchRow{X: x()}
			for n := range uint64(6) {
				b.Takes = append(b.Takes, ref("q", n+1))
			}
			b.Takes[i] = b.Takes[j]
			checkIs(t, inBranch(b), i == j)
		}
	}
	for i := range names {
		for j := range names {
			s := inBranch(api.BranchRow{})
			s.Branches = nil
			for n, name := range names {
				s.Branches = append(s.Branches, api.BranchRow{X: name, Takes: []api.Ref{ref("q", 9-uint64(n)), ref("q", 10+uint64(n))}})
			}
			s.Branches[i].Takes[0] = s.Branches[j].Takes[0]
			checkIs(t, s, i == j)
		}
	}
}

func TestP14_1_MostWork(t *testing.T) {
	for _, n := range []int{0, 1, mostWork - 1, mostWork, mostWork + 1, 150, 200} {
		b := api.BranchRow{X: x()}
		for i := range n {
			b.Puts = append(b.Puts, put("p", 0, ""))
			b.Takes = append(b.Takes, ref("q", uint64(n-i)))
		}
		checkIs(t, inBranch(b), n <= mostWork)
		checkIs(t, inBranch(api.BranchRow{X: x(), Puts: b.Puts}), n <= mostWork)
		checkIs(t, inBranch(api.BranchRow{X: x(), Takes: b.Takes}), n <= mostWork)
	}
}

// No Heur is a branch's, wherever the two stand.
func TestP14_1_HeurOfBranch(t *testing.T) {
	names := goodXids()
	for i := range names {
		var s api.Store
		s.Next = 1
		for j, name := range names {
			if i != j {
				s.Branches = append(s.Branches, api.BranchRow{X: name})
			}
		}
		s.Heurs = []api.HeurRow{{X: names[i], Committed: i%2 == 0}}
		checkIs(t, s, true)
		for j := range names {
			if i != j {
				s.Heurs = []api.HeurRow{{X: names[min(i, j)]}, {X: names[max(i, j)]}}
				checkIs(t, s, false)
				s.Heurs = []api.HeurRow{{X: names[j], Committed: true}}
				checkIs(t, s, false)
			}
		}
	}
}

// breaks are changes of rich after each of which it isn't consistent any more.
func breaks() []func(*api.Store) {
	return []func(*api.Store){
		func(s *api.Store) { s.Next = 0 },
		func(s *api.Store) { s.Next = 9 },
		func(s *api.Store) { s.Next = mostId + 2 },
		func(s *api.Store) { s.Queues = nil },
		func(s *api.Store) { s.Queues = s.Queues[:3] },
		func(s *api.Store) { s.Queues = s.Queues[1:] },
		func(s *api.Store) { s.Queues[0], s.Queues[1] = s.Queues[1], s.Queues[0] },
		func(s *api.Store) { s.Queues[3], s.Queues[4] = s.Queues[4], s.Queues[3] },
		func(s *api.Store) { slices.Reverse(s.Queues) },
		func(s *api.Store) { s.Queues[0].Name = "b" },
		func(s *api.Store) { s.Queues[4].Name = "q" },
		func(s *api.Store) { s.Queues[0].Name = "" },
		func(s *api.Store) { s.Queues[4].Name = "\x7f" },
		func(s *api.Store) { s.Queues[4].Name = "~" + long(mostName) },
		func(s *api.Store) { s.Queues[0].Limit = 0 },
		func(s *api.Store) { s.Queues[4].Limit = 0 },
		func(s *api.Store) { s.Queues[1].Limit = mostId + 1 },
		func(s *api.Store) { s.Queues[2].Msgs[0].Id = 0 },
		func(s *api.Store) { s.Queues[2].Msgs[0].Id = 10 },
		func(s *api.Store) { s.Queues[2].Msgs[0].Id = math.MaxUint64 },
		func(s *api.Store) { s.Queues[3].Msgs[3].Id = 5 },
		func(s *api.Store) { s.Queues[3].Msgs[1].Id = 6 },
		func(s *api.Store) { s.Queues[2].Msgs[0].Body = long(mostBody + 1) },
		func(s *api.Store) { s.Queues[3].Msgs[3].Props = greatProps()[0] },
		func(s *api.Store) { s.Queues[3].Msgs = nil },
		func(s *api.Store) { s.Queues[3].Msgs = s.Queues[3].Msgs[1:] },
		func(s *api.Store) { s.Branches[0].X = y() },
		func(s *api.Store) { s.Branches[2].X = x() },
		func(s *api.Store) { s.Branches[2].X = named(1<<31, "", "a") },
		func(s *api.Store) { s.Branches[0], s.Branches[1] = s.Branches[1], s.Branches[0] },
		func(s *api.Store) { s.Branches[0].Puts[0].Queue = "r" },
		func(s *api.Store) { s.Branches[0].Puts[2].Queue = "" },
		func(s *api.Store) { s.Branches[0].Puts[2].Id = 10 },
		func(s *api.Store) { s.Branches[0].Puts[1].Id = 1 },
		func(s *api.Store) { s.Branches[0].Puts[1].Body = long(mostBody + 1) },
		func(s *api.Store) { s.Branches[0].Puts[1].Props = greatProps()[1] },
		func(s *api.Store) { s.Branches[0].Takes[0].Id = 6 },
		func(s *api.Store) { s.Branches[0].Takes[2].Queue = "free" },
		func(s *api.Store) { s.Branches[0].Takes[2].Queue = "nowhere" },
		func(s *api.Store) { s.Branches[0].Takes[0] = s.Branches[0].Takes[2] },
		func(s *api.Store) { s.Branches[1].Takes[0] = s.Branches[0].Takes[1] },
		func(s *api.Store) { s.Branches[2].Takes = []api.Ref{ref("b", 9)} },
		func(s *api.Store) { s.Heurs[0], s.Heurs[1] = s.Heurs[1], s.Heurs[0] },
		func(s *api.Store) { s.Heurs[1] = s.Heurs[0] },
		func(s *api.Store) { s.Heurs[0].X = api.Xid{} },
		func(s *api.Store) { s.Heurs[0].X.Branch = long(mostPart + 1) },
		func(s *api.Store) { s.Heurs[1].X = x() },
		func(s *api.Store) { s.Heurs[1].X = y() },
		func(s *api.Store) { s.Heurs = append(s.Heurs, api.HeurRow{X: z()}) },
	}
}

// broken are stores that are not consistent, each for one reason.
func broken() []api.Store {
	var l []api.Store
	for _, change := range breaks() {
		s := cloned(rich())
		change(&s)
		l = append(l, s)
	}
	return l
}

func TestP14_1_Broken(t *testing.T) {
	for _, s := range broken() {
		checkIs(t, s, false)
	}
	for _, p := range wrongProps() {
		s := cloned(rich())
		s.Branches[0].Puts[0].Props = p
		checkIs(t, s, false)
		s = cloned(rich())
		s.Queues[2].Msgs[0].Props = p
		checkIs(t, s, false)
	}
}

func checkLocked(t *testing.T, s api.Store, r api.Ref, x api.Xid, is bool) {
	t.Helper()
	if got, locked := store.Locked(s, r); got != x || locked != is {
		t.Errorf("Locked of %s, %v: %s, %v", show(s), r, toldXid(got), locked)
	}
}

func TestP14_1_Locked(t *testing.T) {
	for _, s := range samples() {
		w := worldOf(s)
		for _, name := range []string{"", "a", "b", "free", "q", "~", "none", " "} {
			for _, id := range []uint64{0, 1, 2, 3, 4, 5, 7, 8, 9, 10, 199, 200, 500, 999, mostId, mostId + 1, math.MaxUint64} {
				x, is := w.taker(ref(name, id))
				checkLocked(t, s, ref(name, id), x, is)
			}
		}
	}
	s := rich()
	checkLocked(t, s, ref("q", 5), x(), true)
	checkLocked(t, s, ref("q", 1), x(), true)
	checkLocked(t, s, ref("b", 2), x(), true)
	checkLocked(t, s, ref("q", 2), api.Xid{}, false)
	checkLocked(t, s, ref("b", 9), y(), true)
	checkLocked(t, s, ref("q", 9), api.Xid{}, false)
	checkLocked(t, crowded(), ref("q", 199), x(), true)
}

// In a store that is not consistent nothing is locked.
func TestP14_1_LockedInBroken(t *testing.T) {
	for _, s := range broken() {
		for _, r := range []api.Ref{ref("q", 5), ref("b", 2), ref("q", 1), ref("b", 9), ref("q", 2), {}} {
			checkLocked(t, s, r, api.Xid{}, false)
		}
	}
}

func TestP14_2_Examples(t *testing.T) {
	s := example()
	q := func(next uint64, l ...api.MsgRow) api.Store {
		return api.Store{Next: next, Queues: []api.QueueRow{{Name: "q", Limit: 9, Msgs: l}}}
	}
	a, b, c := message(1, "a"), message(2, "b"), message(3, "c")
	take := []api.Ref{ref("q", 1)}
	checkDone(t, s, api.Entry{Kind: api.EnDo, Puts: []api.Put{put("q", 3, "c")}, Takes: take}, q(4, b, c))

	prepared := q(3, a, b)
	prepared.Branches = []api.BranchRow{{X: x(), Puts: []api.Put{put("q", 0, "c")}, Takes: take}}
	checkDone(t, s, api.Entry{Kind: api.EnPrep, X: x(), Puts: []api.Put{put("q", 0, "c")}, Takes: take}, prepared)
	checkDone(t, prepared, api.Entry{Kind: api.EnCommit, X: x(), N: 3}, q(4, b, c))

	prepared.Branches = []api.BranchRow{{X: x(), Takes: take}}
	checkDone(t, s, api.Entry{Kind: api.EnPrep, X: x(), Takes: take}, prepared)
	a.Props.Redelivered = true
	checkDone(t, prepared, api.Entry{Kind: api.EnBack, X: x()}, q(3, a, b))
	checkError(t, prepared, api.Entry{Kind: api.EnDo, Takes: take}, api.ErrState)
	checkError(t, prepared, api.Entry{Kind: api.EnDrop, Name: "q"}, api.ErrState)
	checkError(t, prepared, api.Entry{Kind: api.EnPrep, X: x()}, api.ErrThere)

	decided := q(3, a, b)
	decided.Heurs = []api.HeurRow{{X: x()}}
	checkDone(t, prepared, api.Entry{Kind: api.EnHeurBack, X: x()}, decided)
	checkDone(t, decided, api.Entry{Kind: api.EnForget, X: x()}, q(3, a, b))
	checkError(t, q(3, a, b), api.Entry{Kind: api.EnForget, X: x()}, api.ErrNone)
}

// changed is rich with a change.
func changed(change func(*api.Store)) api.Store {
	s := cloned(rich())
	change(&s)
	return s
}

// committed is rich once its branch x is committed.
func committed() api.Store {
	return changed(func(s *api.Store) {
		s.Next = 13
		s.Queues[0].Msgs = []api.MsgRow{message(11, "e")}
		s.Queues[1].Msgs = s.Queues[1].Msgs[1:]
		s.Queues[3].Msgs = []api.MsgRow{message(2, "b"), message(7, ""), {Id: 10, Props: nested(), Body: "d"}, message(12, "f")}
		s.Branches = s.Branches[1:]
	})
}

// returned is rich once its branch x is rolled back.
func returned() api.Store {
	return changed(func(s *api.Store) {
		s.Queues[1].Msgs[0].Props.Redelivered = true
		s.Queues[3].Msgs[0].Props.Redelivered = true
		s.Queues[3].Msgs[2].Props.Redelivered = true
		s.Branches = s.Branches[1:]
	})
}

// Each Kind, done to a store with rows of all kinds.
func TestP14_2_EachKind(t *testing.T) {
	work := func(kind uint8, takes []api.Ref, puts ...api.Put) api.Entry {
		return api.Entry{Kind: kind, Puts: puts, Takes: takes}
	}
	checkDone(t, rich(), api.Entry{Kind: api.EnQueue, Name: "c", N: 5}, changed(func(s *api.Store) {
		s.Queues = slices.Insert(s.Queues, 2, api.QueueRow{Name: "c", Limit: 5})
	}))
	checkDone(t, rich(), api.Entry{Kind: api.EnDrop, Name: "free"}, changed(func(s *api.Store) { s.Queues = slices.Delete(s.Queues, 2, 3) }))
	checkDone(t, rich(), work(api.EnDo, []api.Ref{ref("q", 7), ref("b", 4), ref("q", 2)}, put("a", 10, "g"), api.Put{Queue: "q", Id: 15, Props: nested()}, put("a", 16, "h")), changed(func(s *api.Store) {
		s.Next = 17
		s.Queues[0].Msgs = []api.MsgRow{message(10, "g"), message(16, "h")}
		s.Queues[1].Msgs = slices.Delete(s.Queues[1].Msgs, 1, 2)
		s.Queues[3].Msgs = []api.MsgRow{s.Queues[3].Msgs[0], s.Queues[3].Msgs[2], {Id: 15, Props: nested()}}
	}))
	prep := work(api.EnPrep, []api.Ref{ref("q", 2), ref("free", 8)}, put("free", 0, "g"), put("~", 0, "h"))
	prep.X = named(7, "x", "xx")
	checkDone(t, rich(), prep, changed(func(s *api.Store) {
		s.Branches = slices.Insert(s.Branches, 1, api.BranchRow{X: prep.X, Puts: prep.Puts, Takes: prep.Takes})
	}))
	checkDone(t, rich(), api.Entry{Kind: api.EnCommit, X: x(), N: 10}, committed())
	checkDone(t, rich(), api.Entry{Kind: api.EnBack, X: x()}, returned())
	heur := func(s api.Store, row api.HeurRow) api.Store {
		s.Heurs = append(s.Heurs, row)
		return s
	}
	checkDone(t, rich(), api.Entry{Kind: api.EnHeurCommit, X: x(), N: 10}, heur(committed(), api.HeurRow{X: x(), Committed: true}))
	checkDone(t, rich(), api.Entry{Kind: api.EnHeurBack, X: x()}, heur(returned(), api.HeurRow{X: x()}))
	checkDone(t, rich(), api.Entry{Kind: api.EnForget, X: v()}, changed(func(s *api.Store) { s.Heurs = s.Heurs[1:] }))
	checkDone(t, rich(), api.Entry{Kind: api.EnForget, X: w()}, changed(func(s *api.Store) { s.Heurs = s.Heurs[:1] }))
	for _, s := range samples() {
		checkDone(t, s, api.Entry{Kind: api.EnDo}, s)
		if len(s.Branches)+len(s.Heurs) < 3 {
			checkApplied(t, s, api.Entry{Kind: api.EnPrep, X: x()})
			checkApplied(t, s, api.Entry{Kind: api.EnPrep, X: z()})
		}
	}
}

// What is removed may be the last row of its list, and what is added the first.
func TestP14_2_FirstAndLast(t *testing.T) {
	empty := api.Store{Next: 1}
	queue := api.Store{Next: 1, Queues: []api.QueueRow{{Name: "q", Limit: mostId}}}
	checkDone(t, empty, api.Entry{Kind: api.EnQueue, Name: "q", N: mostId}, queue)
	checkDone(t, queue, api.Entry{Kind: api.EnDrop, Name: "q"}, empty)
	one := api.Store{Next: 2, Queues: []api.QueueRow{{Name: "q", Limit: mostId, Msgs: []api.MsgRow{message(1, "")}}}}
	checkDone(t, queue, api.Entry{Kind: api.EnDo, Puts: []api.Put{put("q", 1, "")}}, one)
	queue.Next = 2
	checkDone(t, one, api.Entry{Kind: api.EnDo, Takes: []api.Ref{ref("q", 1)}}, queue)
	branch := api.Store{Next: 1, Branches: []api.BranchRow{{X: x()}}}
	checkDone(t, empty, api.Entry{Kind: api.EnPrep, X: x()}, branch)
	checkDone(t, branch, api.Entry{Kind: api.EnCommit, X: x(), N: 7}, empty)
	checkDone(t, branch, api.Entry{Kind: api.EnBack, X: x()}, empty)
	heur := api.Store{Next: 1, Heurs: []api.HeurRow{{X: x(), Committed: true}}}
	checkDone(t, branch, api.Entry{Kind: api.EnHeurCommit, X: x(), N: 7}, heur)
	checkDone(t, heur, api.Entry{Kind: api.EnForget, X: x()}, empty)
	heur.Heurs[0].Committed = false
	checkDone(t, branch, api.Entry{Kind: api.EnHeurBack, X: x()}, heur)
	checkDone(t, heur, api.Entry{Kind: api.EnForget, X: x()}, empty)
}

// New rows stand in their place among others, wherever that is.
func TestP14_2_Places(t *testing.T) {
	names, xids := goodNames(), goodXids()
	for i := range names {
		s := api.Store{Next: 1}
		for j, name := range names {
			if i != j {
				s.Queues = append(s.Queues, api.QueueRow{Name: name, Limit: 1})
				checkError(t, s, api.Entry{Kind: api.EnQueue, Name: name, N: 2}, api.ErrThere)
			}
		}
		got, _ := checkApplied(t, s, api.Entry{Kind: api.EnQueue, Name: names[i], N: 7})
		checkApplied(t, got, api.Entry{Kind: api.EnDrop, Name: names[i]})
	}
	for i := range xids {
		branches, heurs := api.Store{Next: 1}, api.Store{Next: 1}
		for j, x := range xids {
			if i != j {
				branches.Branches = append(branches.Branches, api.BranchRow{X: x})
				heurs.Heurs = append(heurs.Heurs, api.HeurRow{X: x})
			}
		}
		heurs.Branches = []api.BranchRow{{X: xids[i]}}
		got, no := checkApplied(t, branches, api.Entry{Kind: api.EnPrep, X: xids[i]})
		if no != api.OK {
			t.Errorf("EnPrep of %s: %d", toldXid(xids[i]), no)
		}
		for _, e := range []api.Entry{{Kind: api.EnCommit, N: 5}, {Kind: api.EnBack}, {Kind: api.EnHeurCommit, N: 5}, {Kind: api.EnHeurBack}} {
			e.X = xids[i]
			checkApplied(t, got, e)
			decided, no := checkApplied(t, heurs, e)
			if no != api.OK {
				t.Errorf("%s: %d", showEntry(e), no)
			}
			checkApplied(t, decided, api.Entry{Kind: api.EnForget, X: e.X})
		}
	}
}

func TestP14_2_Errors(t *testing.T) {
	s := rich()
	none := named(7, "x", "z")
	for _, name := range []string{"a", "b", "free", "q", "~"} {
		checkError(t, s, api.Entry{Kind: api.EnQueue, Name: name, N: 1}, api.ErrThere)
	}
	for _, name := range []string{"!", "c", "Q", "fre", "freee", "~~"} {
		checkError(t, s, api.Entry{Kind: api.EnDrop, Name: name}, api.ErrNone)
		checkError(t, s, api.Entry{Kind: api.EnDo, Puts: []api.Put{put(name, 10, "")}}, api.ErrNone)
		checkError(t, s, api.Entry{Kind: api.EnDo, Takes: []api.Ref{ref(name, 2)}}, api.ErrNone)
		checkError(t, s, api.Entry{Kind: api.EnPrep, X: none, Puts: []api.Put{put("q", 0, ""), put(name, 0, "")}}, api.ErrNone)
		checkError(t, s, api.Entry{Kind: api.EnPrep, X: none, Takes: []api.Ref{ref(name, 2)}}, api.ErrNone)
	}
	for _, x := range []api.Xid{v(), w(), x(), y(), z()} {
		checkError(t, s, api.Entry{Kind: api.EnPrep, X: x}, api.ErrThere)
	}
	for _, x := range []api.Xid{v(), w(), none, named(7, "xy", ""), named(8, "x", ""), named(1<<31, "a", "")} {
		checkError(t, s, api.Entry{Kind: api.EnCommit, X: x, N: 10}, api.ErrNone)
		checkError(t, s, api.Entry{Kind: api.EnCommit, X: x, N: 9}, api.ErrNone)
		checkError(t, s, api.Entry{Kind: api.EnHeurCommit, X: x, N: 10}, api.ErrNone)
		checkError(t, s, api.Entry{Kind: api.EnBack, X: x}, api.ErrNone)
		checkError(t, s, api.Entry{Kind: api.EnHeurBack, X: x}, api.ErrNone)
	}
	for _, x := range []api.Xid{x(), y(), z(), none, named(1, "v", "v"), named(0, "v", ""), named(7, "\x00\xff", "")} {
		checkError(t, s, api.Entry{Kind: api.EnForget, X: x}, api.ErrNone)
	}
}

// A queue is dropped only once no branch puts into it, nor takes from it.
func TestP14_2_DropOfUsed(t *testing.T) {
	drop := func(name string) api.Entry { return api.Entry{Kind: api.EnDrop, Name: name} }
	s := rich()
	checkError(t, s, drop("a"), api.ErrState) // a put only
	checkError(t, s, drop("b"), api.ErrState) // takes of two branches
	checkError(t, s, drop("q"), api.ErrState) // both
	for i, b := range s.Branches[0].Puts {
		s := changed(func(s *api.Store) { s.Branches = []api.BranchRow{{X: x(), Puts: []api.Put{b}}} })
		for _, q := range s.Queues {
			if _, no := checkApplied(t, s, drop(q.Name)); (no == api.ErrState) != (q.Name == b.Queue) {
				t.Errorf("EnDrop of %s with put %d: %d", q.Name, i, no)
			}
		}
	}
	for i, r := range s.Branches[0].Takes {
		s := changed(func(s *api.Store) { s.Branches = []api.BranchRow{{X: z(), Takes: []api.Ref{r}}} })
		for _, q := range s.Queues {
			if _, no := checkApplied(t, s, drop(q.Name)); (no == api.ErrState) != (q.Name == r.Queue) {
				t.Errorf("EnDrop of %s with take %d: %d", q.Name, i, no)
			}
		}
	}
	for _, x := range []api.Xid{x(), y()} {
		s, _ = checkApplied(t, s, api.Entry{Kind: api.EnBack, X: x})
	}
	for _, name := range []string{"a", "b", "q"} {
		if _, no := checkApplied(t, s, drop(name)); no != api.OK {
			t.Errorf("EnDrop of %s: %d", name, no)
		}
	}
}

// The numbers of an EnDo's puts, held against Next and each other.
func TestP14_2_NumbersOfPuts(t *testing.T) {
	for _, next := range []uint64{10, 1 << 32, mostId - 2, mostId, mostId + 1} {
		s := rich()
		s.Next = next
		near := []uint64{1, 9, next - 2, next - 1, next, next + 1, next + 2, next + 3, mostId - 1, mostId}
		near = slices.DeleteFunc(near, func(n uint64) bool { return n > mostId })
		for _, i := range near {
			e := api.Entry{Kind: api.EnDo, Puts: []api.Put{put("q", i, "i")}}
			checkOne := func(is bool) {
				t.Helper()
				if _, no := checkApplied(t, s, e); (no == api.OK) != is || (no == api.ErrState) == is {
					t.Errorf("%s with Next %d: %d", showEntry(e), next, no)
				}
			}
			checkOne(i >= next)
			for _, j := range near {
				e.Puts = []api.Put{put("q", i, "i"), put("a", j, "j")}
				checkOne(next <= i && i < j)
				for _, k := range near {
					e.Puts = []api.Put{put("q", i, "i"), put("a", j, "j"), put("q", k, "k")}
					checkOne(next <= i && i < j && j < k)
				}
			}
		}
	}
}

func TestP14_2_Takes(t *testing.T) {
	s := rich()
	for _, kind := range []uint8{api.EnDo, api.EnPrep} {
		e := api.Entry{Kind: kind}
		if kind == api.EnPrep {
			e.X = named(9, "new", "")
		}
		take := func(want api.Errno, l ...api.Ref) {
			t.Helper()
			e.Takes = l
			if _, no := checkApplied(t, s, e); no != want {
				t.Errorf("%s: %d, not %d", showEntry(e), no, want)
			}
		}
		free, locked, missing := ref("q", 2), ref("q", 5), ref("q", 3)
		take(api.OK, free)
		take(api.OK, ref("q", 7), free, ref("free", 8), ref("b", 4))
		take(api.ErrNone, free, free)
		take(api.ErrNone, free, ref("q", 7), free)
		take(api.ErrNone, missing)
		take(api.ErrNone, ref("q", 10))
		take(api.ErrNone, ref("q", mostId))
		take(api.ErrNone, ref("a", 2))
		take(api.ErrNone, ref("q", 9)) // its number is in another queue
		take(api.ErrState, ref("b", 2))
		take(api.OK, ref("q", 2)) // its number is locked in another queue
		take(api.ErrState, locked)
		take(api.ErrState, free, ref("b", 9))
		take(api.ErrState, locked, missing)
		take(api.ErrState, locked, locked)
		take(api.ErrState, free, locked, free)
		take(api.ErrNone, missing, locked)
		take(api.ErrNone, free, free, locked)
		take(api.ErrNone, missing, missing, locked)
	}
}

// What an EnDo puts can't be taken by it.
func TestP14_2_TakeOfOwnPut(t *testing.T) {
	checkError(t, example(), api.Entry{Kind: api.EnDo, Puts: []api.Put{put("q", 3, "c")}, Takes: []api.Ref{ref("q", 3)}}, api.ErrNone)
}

// Puts are asked about before takes, and each list in order.
func TestP14_2_FirstError(t *testing.T) {
	none, low, good := put("none", 11, ""), put("q", 9, ""), put("q", 12, "")
	missing, locked := []api.Ref{ref("q", 3)}, []api.Ref{ref("q", 1)}
	lowNone := put("none", 9, "")
	s := rich()
	for _, row := range []struct {
		puts  []api.Put
		takes []api.Ref
		want  api.Errno
	}{
		{[]api.Put{none, low}, nil, api.ErrNone}, {[]api.Put{low, none}, nil, api.ErrState}, {[]api.Put{lowNone}, nil, api.ErrNone}, {[]api.Put{good, lowNone}, nil, api.ErrNone},
		{[]api.Put{good, good, none}, nil, api.ErrState}, {[]api.Put{good, none, good}, nil, api.ErrNone}, {[]api.Put{good, low}, nil, api.ErrState},
		{[]api.Put{low}, missing, api.ErrState}, {[]api.Put{none}, locked, api.ErrNone}, {[]api.Put{good}, missing, api.ErrNone}, {[]api.Put{good}, locked, api.ErrState},
		{[]api.Put{good, low}, missing, api.ErrState}, {[]api.Put{good, none}, locked, api.ErrNone},
	} {
		checkError(t, s, api.Entry{Kind: api.EnDo, Puts: row.puts, Takes: row.takes}, row.want)
	}
	none.Id, good.Id = 0, 0
	for _, row := range []struct {
		x     api.Xid
		puts  []api.Put
		takes []api.Ref
		want  api.Errno
	}{
		{x(), []api.Put{none}, nil, api.ErrThere}, {v(), []api.Put{none}, nil, api.ErrThere}, {x(), nil, missing, api.ErrThere}, {w(), nil, missing, api.ErrThere}, {x(), nil, locked, api.ErrThere}, {v(), nil, locked, api.ErrThere},
		{named(7, "new", ""), []api.Put{none}, locked, api.ErrNone}, {named(7, "new", ""), []api.Put{good, none}, locked, api.ErrNone}, {named(7, "new", ""), []api.Put{good, good}, locked, api.ErrState}, {named(7, "new", ""), []api.Put{good}, missing, api.ErrNone},
	} {
		checkError(t, s, api.Entry{Kind: api.EnPrep, X: row.x, Puts: row.puts, Takes: row.takes}, row.want)
	}
}

// The N of a commit counts only if the branch has puts.
func TestP14_2_NumberOfCommit(t *testing.T) {
	for _, kind := range []uint8{api.EnCommit, api.EnHeurCommit} {
		for _, s := range []api.Store{rich(), crowded()} {
			for _, n := range append(goodIds(), s.Next-1, s.Next, s.Next+1) {
				_, no := checkApplied(t, s, api.Entry{Kind: kind, X: x(), N: n})
				if want := map[bool]api.Errno{true: api.OK, false: api.ErrState}[n == s.Next]; no != want {
					t.Errorf("Kind %d with N %d: %d", kind, n, no)
				}
			}
		}
		for _, n := range goodIds() {
			for _, s := range []api.Store{rich(), full()} {
				for _, x := range []api.Xid{y(), z()} {
					if got, no := checkApplied(t, s, api.Entry{Kind: kind, X: x, N: n}); no != api.OK || got.Next != s.Next {
						t.Errorf("Kind %d of %s with N %d: %s, %d", kind, toldXid(x), n, show(got), no)
					}
				}
			}
			checkError(t, full(), api.Entry{Kind: kind, X: x(), N: n}, api.ErrState)
		}
	}
}

// Numbers up to MaxId may be given away, and none above it.
func TestP14_2_NumbersUsedUp(t *testing.T) {
	for _, puts := range []int{1, 2, 3, mostWork} {
		for left := range uint64(mostWork + 2) {
			s := api.Store{Next: mostId + 1 - left, Queues: []api.QueueRow{{Name: "q", Limit: 1}}, Branches: []api.BranchRow{{X: x()}}}
			for i := range puts {
				s.Branches[0].Puts = append(s.Branches[0].Puts, put("q", 0, fmt.Sprint(i)))
			}
			for _, kind := range []uint8{api.EnCommit, api.EnHeurCommit} {
				e := api.Entry{Kind: kind, X: x(), N: max(s.Next, 1)}
				if left == 0 {
					e.N = mostId
					checkError(t, s, e, api.ErrState)
					continue
				}
				want := api.OK
				if uint64(puts) > left {
					want = api.ErrFull
				}
				if got, no := checkApplied(t, s, e); no != want || no == api.OK && got.Next != s.Next+uint64(puts) {
					t.Errorf("%d puts with Next %d: %s, %d", puts, s.Next, show(got), no)
				}
				// A wrong N is told first.
				e.N--
				checkError(t, s, e, api.ErrState)
			}
		}
	}
	one := api.Entry{Kind: api.EnDo, Puts: []api.Put{put("a", mostId, "")}}
	if got, no := checkApplied(t, rich(), one); no != api.OK || got.Next != mostId+1 {
		t.Errorf("EnDo with the last number: %s, %d", show(got), no)
	}
}

// The store is asked about first, then the entry, then what the table says.
func TestP14_2_OrderOfErrors(t *testing.T) {
	wrong := []api.Entry{
		{}, {Kind: 10}, {Kind: 255}, {Kind: api.EnQueue, Name: "q"}, {Kind: api.EnQueue, Name: " ", N: 1}, {Kind: api.EnQueue, Name: "c", N: mostId + 1}, {Kind: api.EnDrop, Name: "free", N: 1}, {Kind: api.EnDrop},
		{Kind: api.EnDo, Puts: []api.Put{put("none", 0, "")}}, {Kind: api.EnDo, Puts: []api.Put{put("q", 10, long(mostBody+1))}}, {Kind: api.EnDo, Takes: []api.Ref{ref("none", 0)}}, {Kind: api.EnDo, Puts: []api.Put{put("none", 1, ""), put("q", mostId+1, "")}},
		{Kind: api.EnDo, Takes: make([]api.Ref, mostWork+1)}, {Kind: api.EnDo, Puts: slices.Repeat([]api.Put{put("none", 1, "")}, mostWork+1)}, {Kind: api.EnDo, Puts: []api.Put{{Queue: "q", Id: 10, Props: api.Props{App: endless()}}}},
		{Kind: api.EnPrep, X: x(), Puts: []api.Put{put("q", 1, "")}}, {Kind: api.EnPrep}, {Kind: api.EnPrep, X: named(7, "", "b")}, {Kind: api.EnCommit, X: x()}, {Kind: api.EnCommit, N: 10}, {Kind: api.EnCommit, X: x(), N: mostId + 1},
		{Kind: api.EnBack, X: x(), N: 1}, {Kind: api.EnBack}, {Kind: api.EnHeurCommit, X: x()}, {Kind: api.EnHeurBack, X: x(), Name: "q"}, {Kind: api.EnForget, X: v(), N: 3}, {Kind: api.EnForget},
	}
	for _, s := range []api.Store{rich(), {Next: 1}, example()} {
		for _, e := range wrong {
			checkError(t, s, e, api.ErrEntry)
		}
	}
	entries := append(wrong, api.Entry{Kind: api.EnQueue, Name: "a", N: 1}, api.Entry{Kind: api.EnQueue, Name: "new", N: 1}, api.Entry{Kind: api.EnDrop, Name: "none"}, api.Entry{Kind: api.EnForget, X: x()}, api.Entry{Kind: api.EnCommit, X: x(), N: 10}, api.Entry{Kind: api.EnBack, X: y()})
	for _, s := range append(broken(), api.Store{}) {
		for _, e := range entries {
			checkError(t, s, e, api.ErrStore)
		}
	}
}

// All entries that a few names, numbers, puts and takes make, for stores with and without what they name.
func TestP14_2_AllEntries(t *testing.T) {
	seen := map[[2]int]int{}
	for _, s := range []api.Store{rich(), full(), example(), committed(), returned()} {
		for e := range anyEntries() {
			_, no := checkApplied(t, s, e)
			seen[[2]int{int(e.Kind), int(no)}]++
		}
	}
	for _, row := range [][]int{
		{1, 0, 8}, {2, 0, 7, 9}, {3, 0, 7, 9}, {4, 0, 8, 7, 9}, {5, 0, 7, 9}, {6, 0, 7}, {7, 0, 7, 9}, {8, 0, 7}, {9, 0, 7},
	} {
		for _, no := range row[1:] {
			if seen[[2]int{row[0], no}] == 0 {
				t.Errorf("no entry of Kind %d met with %d", row[0], no)
			}
		}
	}
}

func anyEntries() func(func(api.Entry) bool) {
	names := []string{"a", "b", "c", "free", "q", "~"}
	xids := []api.Xid{v(), w(), x(), y(), z(), named(7, "n", "")}
	puts := [][]api.Put{nil, {put("q", 10, "1")}, {put("a", 10, "1"), put("q", 11, "2")}, {put("c", 10, "")}, {put("free", 4, ""), put("q", 9, "")}, {put("q", 13, "")}, {put("q", 3, ""), put("q", 3, "")}}
	takes := [][]api.Ref{nil, {ref("q", 2)}, {ref("free", 8), ref("q", 2)}, {ref("q", 2), ref("q", 2)}, {ref("q", 1)}, {ref("q", 7), ref("b", 9)}, {ref("c", 1)}}
	return func(yield func(api.Entry) bool) {
		all := func(l ...api.Entry) bool { return !slices.ContainsFunc(l, func(e api.Entry) bool { return !yield(e) }) }
		for _, name := range names {
			if !all(api.Entry{Kind: api.EnQueue, Name: name, N: 4}, api.Entry{Kind: api.EnDrop, Name: name}) {
				return
			}
		}
		for _, x := range xids {
			if !all(api.Entry{Kind: api.EnCommit, X: x, N: 10}, api.Entry{Kind: api.EnHeurCommit, X: x, N: 10}, api.Entry{Kind: api.EnCommit, X: x, N: 3}, api.Entry{Kind: api.EnBack, X: x}, api.Entry{Kind: api.EnHeurBack, X: x}, api.Entry{Kind: api.EnForget, X: x}) {
				return
			}
		}
		for _, p := range puts {
			for _, r := range takes {
				if !yield(api.Entry{Kind: api.EnDo, Puts: p, Takes: r}) {
					return
				}
				for _, x := range xids {
					if !yield(api.Entry{Kind: api.EnPrep, X: x, Puts: numberless(p), Takes: r}) {
						return
					}
				}
			}
		}
	}
}

// numberless are the same puts with the Id 0.
func numberless(l []api.Put) []api.Put {
	l = slices.Clone(l)
	for i := range l {
		l[i].Id = 0
	}
	return l
}

// drawn is an entry of few names and numbers, so that it often fits a store of the same ones.
func drawn(r *rand.Rand, s api.Store) api.Entry {
	kinds := []uint8{api.EnQueue, api.EnDrop, api.EnDo, api.EnDo, api.EnDo, api.EnPrep, api.EnPrep, api.EnPrep, api.EnCommit, api.EnBack, api.EnHeurCommit, api.EnHeurBack, api.EnForget}
	e := api.Entry{Kind: kinds[r.Intn(len(kinds))]}
	switch e.Kind {
	case api.EnQueue:
		e.Name, e.N = drawnQueue(r, s), uint64(1+r.Intn(5))
	case api.EnDrop:
		e.Name = drawnQueue(r, s)
	case api.EnDo, api.EnPrep:
		next := s.Next - uint64(r.Intn(16)/15)
		for range r.Intn(5) {
			p := put(drawnQueue(r, s), min(next, mostId), fmt.Sprint(r.Intn(100)))
			if r.Intn(4) == 0 {
				p.Props = goodProps()[r.Intn(6)]
			}
			next += 1 + uint64(r.Intn(5)/4) - uint64(r.Intn(20)/19)
			e.Puts = append(e.Puts, p)
		}
		for range r.Intn(4) {
			e.Takes = append(e.Takes, drawnTake(r, s, drawnQueue(r, s)))
		}
	}
	if e.Kind >= api.EnPrep {
		e.X = drawnXid(r, s)
	}
	if e.Kind == api.EnPrep {
		e.Puts = numberless(e.Puts)
	}
	if e.Kind == api.EnCommit || e.Kind == api.EnHeurCommit {
		e.N = min(s.Next+uint64(r.Intn(6)/5), mostId)
	}
	return e
}

// drawnQueue is a queue that is there, in most cases.
func drawnQueue(r *rand.Rand, s api.Store) string {
	if len(s.Queues) > 0 && r.Intn(8) > 0 {
		return s.Queues[r.Intn(len(s.Queues))].Name
	}
	return []string{"a", "b", "c", "d"}[r.Intn(4)]
}

// drawnXid is the name of a branch or of a Heur, in many cases.
func drawnXid(r *rand.Rand, s api.Store) api.Xid {
	i := r.Intn(5)
	if len(s.Branches) > i {
		return s.Branches[i].X
	}
	if len(s.Heurs) > i {
		return s.Heurs[i].X
	}
	return []api.Xid{x(), y(), z(), v(), w()}[i]
}

// drawnTake is a message that is there, in most cases.
func drawnTake(r *rand.Rand, s api.Store, other string) api.Ref {
	if len(s.Queues) > 0 && r.Intn(8) > 0 {
		if q := s.Queues[r.Intn(len(s.Queues))]; len(q.Msgs) > 0 {
			return ref(q.Name, q.Msgs[r.Intn(len(q.Msgs))].Id)
		}
	}
	return ref(other, uint64(1+r.Intn(9)))
}

// Walks from store to store, each step held against the chapter's words; every store on the way is consistent, and is what its encoding says.
func TestP14_2_Walks(t *testing.T) {
	r := rand.New(rand.NewSource(14))
	seen := map[[2]int]int{}
	for walk := range 300 {
		s := api.Store{Next: 1}
		if walk%4 == 3 {
			s.Next = mostId - uint64(r.Intn(20))
		}
		for range 100 {
			e := drawn(r, s)
			next, no := checkApplied(t, s, e)
			seen[[2]int{int(e.Kind), int(no)}]++
			if no == api.OK {
				s = next
			}
			if t.Failed() {
				return
			}
		}
		checkIs(t, s, true)
		checkPut(t, s, encoded(s))
		checkGot(t, encoded(s), s)
	}
	for _, row := range [][]int{
		{1, 0, 8}, {2, 0, 7, 9}, {3, 0, 7, 9}, {4, 0, 8, 7, 9}, {5, 0, 7, 9, 6}, {6, 0, 7}, {7, 0, 7, 9, 6}, {8, 0, 7}, {9, 0, 7},
	} {
		for _, no := range row[1:] {
			if seen[[2]int{row[0], no}] == 0 {
				t.Errorf("no entry of Kind %d met with %d", row[0], no)
			}
		}
	}
}

// Stores with a row changed, dropped, doubled or moved, consistent and not.
func TestP14_1_NearStores(t *testing.T) {
	r := rand.New(rand.NewSource(141))
	consistent := 0
	for range 12000 {
		s := cloned([]api.Store{rich(), example(), committed(), returned()}[r.Intn(4)])
		for range 1 + r.Intn(2) {
			jolt(r, &s)
		}
		if checkJudged(t, s) {
			consistent++
			checkPut(t, s, encoded(s))
			checkApplied(t, s, drawn(r, s))
		}
		checkAsWorded(t, encoded(s))
	}
	if consistent < 600 || consistent > 11400 {
		t.Errorf("%d of them are consistent", consistent)
	}
}

// jolt changes something in a store.
func jolt(r *rand.Rand, s *api.Store) {
	switch r.Intn(9) {
	case 0:
		s.Next += uint64(r.Intn(3)) - 1
	case 1:
		s.Queues = shuffled(r, s.Queues)
	case 2:
		s.Branches = shuffled(r, s.Branches)
	case 3:
		s.Heurs = shuffled(r, s.Heurs)
	case 4, 5:
		if len(s.Queues) > 0 {
			q := &s.Queues[r.Intn(len(s.Queues))]
			q.Msgs = shuffled(r, q.Msgs)
			q.Limit += uint64(r.Intn(2))
			if len(q.Msgs) > 0 {
				q.Msgs[r.Intn(len(q.Msgs))].Id += uint64(r.Intn(3)) - 1
			}
		}
	case 6, 7:
		if len(s.Branches) > 0 {
			b := &s.Branches[r.Intn(len(s.Branches))]
			b.Puts, b.Takes = shuffled(r, b.Puts), shuffled(r, b.Takes)
			b.X.Branch += []string{"", "", "x"}[r.Intn(3)]
			if len(b.Takes) > 0 {
				b.Takes[r.Intn(len(b.Takes))].Id += uint64(r.Intn(3)) - 1
			}
		}
	case 8:
		if len(s.Heurs) > 0 {
			s.Heurs[r.Intn(len(s.Heurs))].X = []api.Xid{v(), w(), x(), y(), z(), {}}[r.Intn(6)]
		}
	}
}

// shuffled are the rows with one of them dropped, doubled or moved.
func shuffled[T any](r *rand.Rand, l []T) []T {
	if len(l) == 0 {
		return l
	}
	i, j := r.Intn(len(l)), r.Intn(len(l))
	switch r.Intn(5) {
	case 0:
		return slices.Delete(l, i, i+1)
	case 1:
		return slices.Insert(l, j, l[i])
	case 2:
		l[i], l[j] = l[j], l[i]
	}
	return l
}

// roomy is the list, with room behind it in which that one stands.
func roomy[T any](l []T, behind T) []T {
	out := append(slices.Clone(l), behind, behind, behind)
	return out[:len(l)]
}

// roomyStore is s with room behind each of its lists.
func roomyStore(s api.Store) api.Store {
	s = cloned(s)
	for i := range s.Queues {
		s.Queues[i].Msgs = roomy(s.Queues[i].Msgs, message(77, "behind"))
	}
	for i := range s.Branches {
		s.Branches[i].Puts, s.Branches[i].Takes = roomy(s.Branches[i].Puts, put("behind", 7, "")), roomy(s.Branches[i].Takes, ref("behind", 7))
	}
	s.Queues, s.Branches, s.Heurs = roomy(s.Queues, api.QueueRow{Name: "behind"}), roomy(s.Branches, api.BranchRow{X: named(9, "behind", "")}), roomy(s.Heurs, api.HeurRow{X: named(9, "behind", "")})
	return s
}

// whole is s with each list up to its capacity.
func whole(s api.Store) api.Store {
	s = api.Store{Next: s.Next, Queues: slices.Clone(s.Queues[:cap(s.Queues)]), Branches: slices.Clone(s.Branches[:cap(s.Branches)]), Heurs: s.Heurs[:cap(s.Heurs)]}
	for i, q := range s.Queues {
		s.Queues[i].Msgs = q.Msgs[:cap(q.Msgs)]
	}
	for i, b := range s.Branches {
		s.Branches[i].Puts, s.Branches[i].Takes = b.Puts[:cap(b.Puts)], b.Takes[:cap(b.Takes)]
	}
	return s
}

// toldWork tells an entry's puts and takes up to their capacities.
func toldWork(e api.Entry) string {
	return showEntry(e) + told(api.Store{Branches: []api.BranchRow{{X: e.X, Puts: e.Puts[:cap(e.Puts)], Takes: e.Takes[:cap(e.Takes)]}}})
}

// What is passed in is not changed, nor is the memory behind it.
func TestP14_2_NothingChanged(t *testing.T) {
	for _, s := range []api.Store{roomyStore(rich()), roomyStore(example()), roomyStore(crowded()), roomyStore(committed())} {
		was := told(whole(s))
		check := func(what string) {
			t.Helper()
			if told(whole(s)) != was {
				t.Fatalf("%s changed %s", what, show(s))
			}
		}
		store.Check(s)
		store.Locked(s, ref("q", 5))
		b, _ := store.Put(s)
		store.Get(b)
		store.Same(s, s)
		store.Same(s, roomyStore(rich()))
		check("a look")
		for e := range anyEntries() {
			e.Puts, e.Takes = roomy(e.Puts, put("behind", 7, "")), roomy(e.Takes, ref("behind", 7))
			entryWas := toldWork(e)
			store.Apply(s, e)
			check(showEntry(e))
			if toldWork(e) != entryWas {
				t.Fatalf("changed: %s", showEntry(e))
			}
		}
		store.Apply(s, api.Entry{Kind: api.EnCommit, X: x(), N: s.Next})
		check("a commit")
	}
}

// fill changes a list, with the room behind it.
func fill[T any](l []T, to T) {
	l = l[:cap(l)]
	for i := range l {
		l[i] = to
	}
}

// spoilValue changes all lists in v, with the room behind them.
func spoilValue(v api.Value) {
	for _, element := range v.List {
		spoilValue(element)
	}
	fill(v.Keys, "spoilt")
	fill(v.List, api.Value{Kind: api.ValueBool, N: 1})
}

func spoilPuts(l []api.Put) {
	for _, p := range l {
		spoilValue(p.Props.App)
	}
	fill(l, put("spoilt", 3, "spoilt"))
}

// spoil changes all lists of a store, with the room behind them.
func spoil(s api.Store) {
	for _, q := range s.Queues {
		for _, m := range q.Msgs {
			spoilValue(m.Props.App)
		}
		fill(q.Msgs, message(5, "spoilt"))
	}
	for _, b := range s.Branches {
		spoilPuts(b.Puts)
		fill(b.Takes, ref("spoilt", 3))
	}
	fill(s.Queues, api.QueueRow{Name: "spoilt"})
	fill(s.Branches, api.BranchRow{X: named(3, "spoilt", "")})
	fill(s.Heurs, api.HeurRow{X: named(3, "spoilt", "")})
}

// An answer shares no memory with what was passed in.
func TestP14_2_NewMemory(t *testing.T) {
	prep := api.Entry{Kind: api.EnPrep, X: named(8, "new", ""), Puts: []api.Put{{Queue: "q", Props: nested()}, {Queue: "a", Props: nested()}}, Takes: []api.Ref{ref("q", 2), ref("free", 8)}}
	do := api.Entry{Kind: api.EnDo, Puts: []api.Put{{Queue: "q", Id: 10, Props: nested()}, {Queue: "a", Id: 12, Props: nested()}}, Takes: []api.Ref{ref("q", 2), ref("free", 8)}}
	for _, made := range []api.Entry{
		prep, do, {Kind: api.EnDo}, {Kind: api.EnQueue, Name: "new", N: 1}, {Kind: api.EnDrop, Name: "free"}, {Kind: api.EnCommit, X: x(), N: 10}, {Kind: api.EnBack, X: x()}, {Kind: api.EnHeurCommit, X: x(), N: 10}, {Kind: api.EnHeurBack, X: x()}, {Kind: api.EnForget, X: v()},
	} {
		s, e := roomyStore(rich()), clonedEntry(made)
		was, entryWas := told(whole(s)), toldWork(e)
		got, no := store.Apply(s, e)
		if no != api.OK {
			t.Fatalf("%s: %d", showEntry(e), no)
		}
		want := told(got)
		other, _ := store.Apply(s, e)
		spoil(other)
		if told(whole(s)) != was || toldWork(e) != entryWas {
			t.Errorf("what was passed in is changed with the answer: %s", showEntry(e))
		}
		if told(got) != want {
			t.Errorf("an answer is changed with another one: %s", showEntry(e))
		}
		spoil(s)
		spoilPuts(e.Puts)
		fill(e.Takes, ref("spoilt", 3))
		if told(got) != want {
			t.Errorf("the answer is changed with what was passed in: %s", showEntry(e))
		}
	}
}

// No two lists of an answer share memory, even where those of an argument do.
func TestP14_2_ListsApart(t *testing.T) {
	one := nested()
	s := api.Store{Next: 5, Queues: []api.QueueRow{{Name: "p", Limit: 9, Msgs: []api.MsgRow{{Id: 1, Props: one}, {Id: 2, Props: one}}}, {Name: "q", Limit: 9, Msgs: []api.MsgRow{{Id: 1, Props: one}, {Id: 2, Props: one}}}}}
	puts := []api.Put{{Queue: "p", Props: one}, {Queue: "q", Props: one}}
	s.Branches = []api.BranchRow{{X: x(), Puts: puts}, {X: y(), Puts: puts}}
	numbered := slices.Clone(puts)
	numbered[0].Id, numbered[1].Id = 5, 6
	for _, e := range []api.Entry{{Kind: api.EnDo, Puts: numbered}, {Kind: api.EnPrep, X: z(), Puts: puts}, {Kind: api.EnCommit, X: x(), N: 5}} {
		got, no := store.Apply(s, e)
		want, _ := applied(s, e)
		if no != api.OK {
			t.Fatalf("%s: %d", showEntry(e), no)
		}
		for i := range got.Queues {
			for j := range got.Queues[i].Msgs {
				spoilValue(got.Queues[i].Msgs[j].Props.App)
				got.Queues[i].Msgs[j].Props.App = clonedValue(one.App)
				if told(got) != told(want) {
					t.Fatalf("message %d of queue %d shares memory: %s", j, i, showEntry(e))
				}
			}
		}
		for i := range got.Branches {
			spoilPuts(got.Branches[i].Puts)
			got.Branches[i].Puts = clonedEntry(api.Entry{Puts: puts}).Puts
			if told(got) != told(want) {
				t.Fatalf("the puts of branch %d share memory: %s", i, showEntry(e))
			}
		}
	}
}

// Where a list may be nil or empty, the answer is the same.
func TestP14_2_NilAndEmpty(t *testing.T) {
	nils := api.Store{Next: 3, Queues: []api.QueueRow{{Name: "q", Limit: 1}}, Branches: []api.BranchRow{{X: x()}}}
	empties := cloned(nils)
	empties.Queues[0].Msgs, empties.Branches[0].Puts, empties.Branches[0].Takes, empties.Heurs = []api.MsgRow{}, []api.Put{}, []api.Ref{}, []api.HeurRow{}
	for e := range anyEntries() {
		a, aNo := checkApplied(t, nils, e)
		b, bNo := checkApplied(t, empties, e)
		if aNo != bNo || told(a) != told(b) {
			t.Errorf("%s: %d, %d", showEntry(e), aNo, bNo)
		}
		if len(e.Puts)+len(e.Takes) == 0 {
			e.Puts, e.Takes = []api.Put{}, []api.Ref{}
			checkApplied(t, empties, e)
		}
	}
}

// known are stores and their encodings, byte by byte.
func known() map[string]api.Store {
	return map[string]api.Store{
		"00 00 00 00 00 00 00 01 00 00 00 00 00 00": {Next: 1},
		"00 00 01 00 00 00 00 01 00 00 00 00 00 00": {Next: mostId + 1},
		"00 00 00 00 00 00 00 03 00 01 01 71 00 00 00 00 00 00 00 09 00 00 00 02" +
			"00 00 00 00 00 00 00 01 00 00 00 08 00 00 00 04 04 01 00 00 00 01 61" +
			"00 00 00 00 00 00 00 02 00 00 00 08 00 00 00 04 04 01 00 00 00 01 62 00 00 00 00": example(),
		"00 00 00 00 00 00 00 03 00 02 01 61 00 00 01 00 00 00 00 00 00 00 00 00 01 71 00 00 00 00 00 00 00 09 00 00 00 01" +
			"00 00 00 00 00 00 00 02 00 00 00 0a 00 00 00 06 04 01 00 07 01 6b 00 00" +
			"00 01 00 00 00 2e 04 00 00 00 07 01 78 00 01 01 71 00 00 00 00 00 00 00 00 00 00 00 08 00 00 00 04 04 01 00 00 00 02 63 64 01 01 71 00 00 00 00 00 00 00 02" +
			"00 02 00 00 00 01 01 76 00 01 80 00 00 00 01 77 01 ff 00": {
			Next:     3,
			Queues:   []api.QueueRow{{Name: "a", Limit: mostId}, {Name: "q", Limit: 9, Msgs: []api.MsgRow{{Id: 2, Props: api.Props{Key: "k", Durable: true, Redelivered: true}}}}},
			Branches: []api.BranchRow{{X: x(), Puts: []api.Put{put("q", 0, "cd")}, Takes: []api.Ref{ref("q", 2)}}},
			Heurs:    []api.HeurRow{{X: v(), Committed: true}, {X: named(1<<31, "w", "\xff")}},
		},
	}
}

func TestP14_3_Known(t *testing.T) {
	for b, s := range known() {
		checkPut(t, s, hexed(b))
		checkGot(t, hexed(b), s)
	}
}

func TestP14_3_Samples(t *testing.T) {
	for _, s := range samples() {
		checkPut(t, s, encoded(s))
		checkGot(t, encoded(s), s)
	}
}

// rows is a store with so many queues, branches and Heurs.
func rows(queues, branches, heurs int) api.Store {
	s := api.Store{Next: 1}
	for i := range queues {
		s.Queues = append(s.Queues, api.QueueRow{Name: fmt.Sprintf("%06d", i), Limit: uint64(i) + 1})
	}
	for i := range branches {
		s.Branches = append(s.Branches, api.BranchRow{X: named(uint32(i), "b", "")})
	}
	for i := range heurs {
		s.Heurs = append(s.Heurs, api.HeurRow{X: named(uint32(i), "h", ""), Committed: i%3 == 0})
	}
	return s
}

func TestP14_3_ManyRows(t *testing.T) {
	for _, n := range []int{255, 256, 257, mostRows - 1, mostRows} {
		for _, s := range []api.Store{rows(n, 0, 0), rows(0, n, 0), rows(0, 0, n), rows(n, n, n)} {
			b := encoded(s)
			checkPut(t, s, b)
			checkGot(t, b, s)
		}
	}
	// Each of these numbers but the last one has two bytes.
	for _, n := range []int{mostRows + 1, mostRows + 2, 65535, 65536} {
		for _, s := range []api.Store{rows(n, 0, 0), rows(0, n, 0), rows(0, 0, n), rows(n, 1, n), rows(mostRows, mostRows, n)} {
			checkConsistent(t, s)
			if b, no := store.Put(s); no != api.ErrFull || b != "" {
				t.Errorf("Put of %s: %d bytes, %d", show(s), len(b), no)
			}
			checkRefused(t, encoded(s))
			s.Next = 0
			if b, no := store.Put(s); no != api.ErrStore || b != "" {
				t.Errorf("Put of %s: %d bytes, %d", show(s), len(b), no)
			}
		}
	}
}

// There may be more than are encoded.
func TestP14_2_ManyRows(t *testing.T) {
	s := rows(mostRows, mostRows, mostRows)
	for _, e := range []api.Entry{{Kind: api.EnQueue, Name: "q", N: 1}, {Kind: api.EnPrep, X: x()}, {Kind: api.EnHeurBack, X: s.Branches[5].X}} {
		got, no := store.Apply(s, e)
		if no != api.OK || len(got.Queues)+len(got.Branches)+len(got.Heurs) < 3*mostRows {
			t.Errorf("%s: %s, %d", showEntry(e), show(got), no)
		}
		if _, no := store.Put(got); no != api.ErrFull && e.Kind != api.EnHeurBack {
			t.Errorf("Put after %s: %d", showEntry(e), no)
		}
	}
}

// A queue may have more messages than two bytes can tell.
func TestP14_3_ManyMessages(t *testing.T) {
	s := api.Store{Next: 1 << 20, Queues: []api.QueueRow{{Name: "q", Limit: 1}}}
	for i := range uint64(70000) {
		s.Queues[0].Msgs = append(s.Queues[0].Msgs, message(i+1, ""))
	}
	b := encoded(s)
	checkPut(t, s, b)
	checkGot(t, b, s)
}

func TestP14_3_Prefixes(t *testing.T) {
	for _, s := range []api.Store{{Next: 1}, example(), rich(), committed()} {
		b := encoded(s)
		for n := range len(b) {
			checkRefused(t, b[:n])
		}
	}
}

func TestP14_3_TooMany(t *testing.T) {
	for _, s := range samples() {
		b := encoded(s)
		for _, more := range []string{"\x00", "\x01", "\xff", "\x00\x00", b} {
			checkRefused(t, b+more)
		}
		checkRefused(t, b[1:])
		checkRefused(t, "\x00"+b)
	}
	for c := range 256 {
		checkRefused(t, encoded(rich())+string([]byte{byte(c)}))
	}
}

// Bytes whose parts are encodings, of stores that are not consistent.
func TestP14_3_Broken(t *testing.T) {
	for _, s := range broken() {
		checkRefused(t, encoded(s))
	}
	for _, s := range []api.Store{{}, {Next: mostId + 2}, {Next: math.MaxUint64}} {
		checkRefused(t, encoded(s))
	}
}

// Parts that are not as they would be encoded.
func TestP14_3_OtherParts(t *testing.T) {
	prep := prepBytes(rich().Branches[0])
	start, end := integer(10, 8)+listed(rich().Queues, queueBytes), integer(0, 2)
	checkGot(t, start+integer(1, 2)+sized(prep, 4)+end, api.Store{Next: 10, Queues: rich().Queues, Branches: rich().Branches[:1]})
	for _, other := range []string{
		"", "\x04", prep + "\x00", prep[:len(prep)-1], prep[1:], "\x03" + prep[1:], "\x03\x00\x00", "\x06" + xidBytes(x()), "\x09" + xidBytes(x()), "\x05" + integer(10, 8) + xidBytes(x()), "\x01\x01q" + integer(1, 8), "\x02\x01q",
		"\x04" + xidBytes(x()) + "\x00", "\x04" + xidBytes(named(7, "", "x")) + "\x00\x00", "\x0a" + prep[1:], "\x04" + xidBytes(x()) + "\x00\x00\x00",
	} {
		checkRefused(t, start+integer(1, 2)+sized(other, 4)+end)
	}
	for c := range 256 {
		checkAsWorded(t, integer(1, 8)+integer(0, 4)+integer(1, 2)+xidBytes(x())+string([]byte{byte(c)}))
		checkAsWorded(t, start+integer(1, 2)+sized(string([]byte{byte(c)})+prep[1:], 4)+end)
	}
	m := func(head string) string {
		return integer(5, 8) + integer(1, 2) + "\x01q" + integer(3, 8) + integer(1, 4) + integer(3, 8) + sized(head, 4) + sized("b", 2) + integer(0, 4)
	}
	for _, p := range goodProps() {
		checkGot(t, m(head(p)), api.Store{Next: 5, Queues: []api.QueueRow{{Name: "q", Limit: 3, Msgs: []api.MsgRow{{Id: 3, Props: p, Body: "b"}}}}})
		for _, other := range []string{head(p) + "\x00", head(p)[1:], head(p)[:len(head(p))-1], head(p)[:4], "", "\x00" + head(p)} {
			checkRefused(t, m(other))
		}
	}
	for _, p := range greatProps() {
		checkRefused(t, m(head(p)))
	}
	for _, other := range []string{"00 00 00 04 04 01 01 00", "00 00 00 05 04 01 00 04 00", "00 00 00 04 04 01 00 00 00 00 00 04 04 03 00 00"} {
		checkRefused(t, m(hexed(other)))
	}
}

// Numbers of rows that are not there.
func TestP14_3_WrongCounts(t *testing.T) {
	front := integer(10, 8)
	for _, n := range []uint64{1, 2, 255, 256, mostRows, mostRows + 1, 65535} {
		for _, more := range []string{"", "\x00", "\x01q", "\x00\x00\x00\x00", strings.Repeat("\x00", 100), long(100), strings.Repeat("\x00", 1<<20), strings.Repeat("\xff", 1<<20)} {
			for _, zeros := range []int{0, 2, 4} {
				checkRefused(t, front+strings.Repeat("\x00", zeros)+integer(n, 2)+more)
			}
		}
	}
	for _, n := range []uint64{1, 2, 1 << 16, 1 << 31, math.MaxUint32} {
		for _, more := range []string{"", "\x00", integer(1, 8), strings.Repeat("\x00", 1<<20), strings.Repeat("\xff", 1<<20)} {
			checkRefused(t, front+integer(1, 2)+"\x01q"+integer(5, 8)+integer(n, 4)+more)
		}
	}
}

// Each byte of brief encodings, with each value.
func TestP14_3_EachByte(t *testing.T) {
	taken := 0
	for s := range known() {
		b := []byte(hexed(s))
		for i, was := range b {
			for c := range 256 {
				b[i] = byte(c)
				if checkAsWorded(t, string(b)) {
					taken++
				}
			}
			b[i] = was
		}
	}
	if taken < 1000 {
		t.Errorf("%d were encodings", taken)
	}
}

// Encodings with bytes taken out, put in and changed.
func TestP14_3_NearEncodings(t *testing.T) {
	r := rand.New(rand.NewSource(143))
	list := []api.Store{{Next: 1}, example(), rich(), committed(), {Next: 2, Heurs: []api.HeurRow{{X: x()}}}, {Next: 2, Branches: []api.BranchRow{{X: y()}}}}
	for range 60000 {
		b := []byte(encoded(list[r.Intn(len(list))]))
		for range 1 + r.Intn(3) {
			at := r.Intn(len(b))
			c := []byte{0, 1, 2, 3, 4, 5, 6, 7, 8, 9, 10, 'a', 'q', ' ', 0x7f, 100, 101, 0xf0, 0xff}[r.Intn(19)]
			switch r.Intn(3) {
			case 0:
				b[at] = c
			case 1:
				b = slices.Insert(b, at, c)
			case 2:
				b = append(slices.Delete(b, at, at+1), c)
			}
		}
		checkAsWorded(t, string(b))
	}
}

func TestP14_3_NewMemory(t *testing.T) {
	b := encoded(rich())
	one, _ := store.Get(b)
	other, _ := store.Get(b)
	spoil(one)
	if told(other) != told(rich()) {
		t.Errorf("another answer was changed: %s", show(other))
	}
	checkGot(t, b, rich())
}

// distinct are stores, consistent or not, no two of which are equal.
func distinct() []api.Store {
	l := append(samples(), broken()...)
	l = append(l, api.Store{}, committed(), returned(), api.Store{Next: math.MaxUint64})
	q, b, h := api.QueueRow{}, api.BranchRow{}, api.HeurRow{}
	l = append(l, api.Store{Queues: []api.QueueRow{q}}, api.Store{Queues: []api.QueueRow{q, q}}, api.Store{Branches: []api.BranchRow{b}}, api.Store{Branches: []api.BranchRow{b, b}}, api.Store{Heurs: []api.HeurRow{h}}, api.Store{Heurs: []api.HeurRow{h, h}})
	for _, p := range append(append(goodProps()[:7], wrongProps()[:12]...), greatProps()...) {
		l = append(l, inQueue(api.MsgRow{Props: p}), inBranch(api.BranchRow{Puts: []api.Put{{Props: p}}}))
	}
	return l
}

func TestP14_4_Same(t *testing.T) {
	l, twins := distinct(), distinct()
	for i, a := range l {
		for j, b := range twins {
			if is := store.Same(a, b); is != (i == j) || is != (told(a) == told(b)) {
				t.Errorf("Same of %s and %s: %v", show(a), show(b), is)
			}
		}
	}
}

// alterations are all that changes one field of a store with the rows of rich.
func alterations() []func(*api.Store) {
	l := []func(*api.Store){
		func(s *api.Store) { s.Next++ },
		func(s *api.Store) { s.Queues = append(s.Queues, api.QueueRow{}) },
		func(s *api.Store) { s.Branches = append(s.Branches, api.BranchRow{}) },
		func(s *api.Store) { s.Heurs = append(s.Heurs, api.HeurRow{}) },
		func(s *api.Store) { s.Queues = s.Queues[1:] },
		func(s *api.Store) { s.Branches = s.Branches[1:] },
		func(s *api.Store) { s.Heurs = s.Heurs[1:] },
		func(s *api.Store) { s.Queues = s.Queues[:4] },
		func(s *api.Store) { s.Branches = s.Branches[:2] },
		func(s *api.Store) { s.Heurs = s.Heurs[:1] },
		func(s *api.Store) { s.Queues[4].Name += "x" },
		func(s *api.Store) { s.Queues[0].Limit++ },
		func(s *api.Store) { s.Queues[4].Msgs = []api.MsgRow{{}} },
		func(s *api.Store) { s.Queues[3].Msgs = s.Queues[3].Msgs[:3] },
		func(s *api.Store) { s.Branches[0].X.Format++ },
		func(s *api.Store) { s.Branches[2].X.Global += "x" },
		func(s *api.Store) { s.Branches[1].X.Branch += "x" },
		func(s *api.Store) { s.Branches[2].Puts = []api.Put{{}} },
		func(s *api.Store) { s.Branches[2].Takes = []api.Ref{{}} },
		func(s *api.Store) { s.Branches[0].Puts = s.Branches[0].Puts[:2] },
		func(s *api.Store) { s.Branches[0].Takes = s.Branches[0].Takes[:2] },
		func(s *api.Store) { s.Branches[0].Takes[2].Queue += "x" },
		func(s *api.Store) { s.Branches[1].Takes[0].Id++ },
		func(s *api.Store) { s.Branches[0].Puts[0].Queue += "x" },
		func(s *api.Store) { s.Branches[0].Puts[2].Id++ },
		func(s *api.Store) { s.Branches[0].Puts[1].Body += "x" },
		func(s *api.Store) {
			s.Branches[0].Takes[0], s.Branches[0].Takes[1] = s.Branches[0].Takes[1], s.Branches[0].Takes[0]
		},
		func(s *api.Store) {
			s.Branches[0].Puts[0], s.Branches[0].Puts[1] = s.Branches[0].Puts[1], s.Branches[0].Puts[0]
		},
		func(s *api.Store) { s.Queues[0], s.Queues[1] = s.Queues[1], s.Queues[0] },
		func(s *api.Store) {
			s.Queues[3].Msgs[0], s.Queues[3].Msgs[1] = s.Queues[3].Msgs[1], s.Queues[3].Msgs[0]
		},
		func(s *api.Store) { s.Heurs[0].X.Format++ },
		func(s *api.Store) { s.Heurs[1].X.Global += "x" },
		func(s *api.Store) { s.Heurs[1].X.Branch = "" },
		func(s *api.Store) { s.Heurs[0].Committed = false },
		func(s *api.Store) { s.Heurs[1].Committed = true },
		func(s *api.Store) { s.Heurs[0], s.Heurs[1] = s.Heurs[1], s.Heurs[0] },
		func(s *api.Store) { s.Queues[2].Msgs[0].Id++ },
		func(s *api.Store) { s.Queues[3].Msgs[3].Body += "x" },
	}
	for _, change := range []func(*api.Props){
		func(p *api.Props) { p.Key += "x" },
		func(p *api.Props) { p.Durable = !p.Durable },
		func(p *api.Props) { p.Redelivered = !p.Redelivered },
		func(p *api.Props) { p.Id += "x" },
		func(p *api.Props) { p.App.Kind++ },
		func(p *api.Props) { p.App.N++ },
		func(p *api.Props) { p.App.S += "x" },
		func(p *api.Props) { p.App.Keys = append(p.App.Keys, "x") },
		func(p *api.Props) { p.App.List = append(p.App.List, void()) },
	} {
		l = append(l, func(s *api.Store) { change(&s.Queues[3].Msgs[2].Props) }, func(s *api.Store) { change(&s.Queues[1].Msgs[0].Props) }, func(s *api.Store) { change(&s.Branches[0].Puts[0].Props) }, func(s *api.Store) { change(&s.Branches[0].Puts[2].Props) })
	}
	return l
}

// Each field alone makes a difference, also where a store is not consistent.
func TestP14_4_EachField(t *testing.T) {
	for _, next := range []uint64{10, 0, math.MaxUint64 - 1} {
		was := cloned(rich())
		was.Next = next
		for i, change := range alterations() {
			s := cloned(was)
			change(&s)
			if store.Same(s, was) || store.Same(was, s) || !store.Same(s, s) || !store.Same(s, cloned(s)) {
				t.Errorf("Same with alteration %d", i)
			}
		}
	}
}

func TestP14_4_NilAndEmpty(t *testing.T) {
	for _, next := range []uint64{0, 1} {
		a := api.Store{Next: next}
		b := api.Store{Next: next, Queues: []api.QueueRow{}, Branches: []api.BranchRow{}, Heurs: []api.HeurRow{}}
		if !store.Same(a, b) || !store.Same(b, a) {
			t.Error("Same with nil and empty lists")
		}
		a.Queues, b.Queues = []api.QueueRow{{Name: "q"}}, []api.QueueRow{{Name: "q", Msgs: []api.MsgRow{}}}
		a.Branches, b.Branches = []api.BranchRow{{X: x()}}, []api.BranchRow{{X: x(), Puts: []api.Put{}, Takes: []api.Ref{}}}
		if !store.Same(a, b) || !store.Same(b, a) {
			t.Error("Same with nil and empty lists in rows")
		}
		bare, full := api.Value{Kind: api.ValueMap}, api.Value{Kind: api.ValueMap, Keys: []string{}, List: []api.Value{}}
		a.Queues, b.Queues = inQueue(api.MsgRow{Props: api.Props{App: bare}}).Queues, inQueue(api.MsgRow{Props: api.Props{App: full}}).Queues
		if !store.Same(a, b) || !store.Same(b, a) {
			t.Error("Same with nil and empty lists in App")
		}
	}
}

// Values that are nested deeply exhaust nothing.
func TestP14_4_Deep(t *testing.T) {
	deep := func(v api.Value) api.Store {
		for range 200000 {
			v = dict("k", v)
		}
		return inQueue(api.MsgRow{Id: 1, Props: api.Props{App: v}})
	}
	if !store.Same(deep(void()), deep(void())) || store.Same(deep(void()), deep(ofBytes(1))) {
		t.Error("Same of deep ones")
	}
	checkNot(t, deep(void()))
}

// preparations are work that may be prepared in rich.
func preparations() []api.Entry {
	l := []api.Entry{
		{}, {Puts: []api.Put{put("q", 0, "g")}}, {Takes: []api.Ref{ref("q", 7)}}, {Takes: []api.Ref{ref("b", 4), ref("q", 2), ref("free", 8)}}, {Puts: []api.Put{put("a", 0, "g"), {Queue: "q", Props: nested()}, put("a", 0, "h")}},
		{Puts: []api.Put{put("q", 0, "g"), {Queue: "free", Props: api.Props{Redelivered: true, Key: "k"}}, put("q", 0, "h")}, Takes: []api.Ref{ref("q", 2), ref("q", 7), ref("free", 8)}},
	}
	for i := range l {
		l[i].Kind = api.EnPrep
	}
	return l
}

// checkOK returns the store that e makes of s.
func checkOK(t *testing.T, s api.Store, e api.Entry) api.Store {
	t.Helper()
	got, no := store.Apply(s, e)
	if no != api.OK || store.Check(got) != api.OK {
		t.Errorf("Apply of %s to %s: %s, %d, %d", showEntry(e), show(s), show(got), no, store.Check(got))
	}
	return got
}

// checkSame asks whether two stores are equal.
func checkSame(t *testing.T, got, want api.Store) {
	t.Helper()
	if !store.Same(got, want) || told(got) != told(want) {
		t.Errorf("%s, not %s", show(got), show(want))
	}
}

// To prepare and roll back marks what was taken; to prepare and commit is to do it at once.
func TestP14_5_PreparedAndEnded(t *testing.T) {
	for _, prep := range preparations() {
		for _, prep.X = range []api.Xid{named(0, "n", ""), named(7, "x", "n"), named(math.MaxUint32, "n", "")} {
			s := rich()
			prepared := checkOK(t, s, prep)
			marked := cloned(s)
			for i, q := range marked.Queues {
				for j, m := range q.Msgs {
					if slices.Contains(prep.Takes, ref(q.Name, m.Id)) {
						marked.Queues[i].Msgs[j].Props.Redelivered = true
					}
				}
			}
			checkSame(t, checkOK(t, prepared, api.Entry{Kind: api.EnBack, X: prep.X}), marked)
			heur := checkOK(t, prepared, api.Entry{Kind: api.EnHeurBack, X: prep.X})
			checkSame(t, checkOK(t, heur, api.Entry{Kind: api.EnForget, X: prep.X}), marked)

			do := api.Entry{Kind: api.EnDo, Puts: slices.Clone(prep.Puts), Takes: prep.Takes}
			for i := range do.Puts {
				do.Puts[i].Id = s.Next + uint64(i)
			}
			done := checkOK(t, s, do)
			checkSame(t, checkOK(t, prepared, api.Entry{Kind: api.EnCommit, X: prep.X, N: 10}), done)
			heur = checkOK(t, prepared, api.Entry{Kind: api.EnHeurCommit, X: prep.X, N: 10})
			checkSame(t, checkOK(t, heur, api.Entry{Kind: api.EnForget, X: prep.X}), done)
		}
	}
}

// A message whose properties are as large as may be can still be returned.
func TestP14_5_ReturnOfHeavy(t *testing.T) {
	s := inQueue(api.MsgRow{Id: 1, Props: heavy(mostProps), Body: long(mostBody)})
	s = checkOK(t, s, api.Entry{Kind: api.EnPrep, X: x(), Takes: []api.Ref{ref("q", 1)}})
	s = checkOK(t, s, api.Entry{Kind: api.EnBack, X: x()})
	if !s.Queues[0].Msgs[0].Props.Redelivered {
		t.Errorf("%s", show(s))
	}
}

// As much as may be done at once.
func TestP14_5_MostWork(t *testing.T) {
	s := crowded()
	s = checkOK(t, s, api.Entry{Kind: api.EnHeurCommit, X: x(), N: 1000})
	checkPut(t, s, encoded(s))
	e := api.Entry{Kind: api.EnDo}
	for i, m := range s.Queues[0].Msgs[2:] {
		e.Takes = append(e.Takes, ref("q", m.Id))
		e.Puts = append(e.Puts, put("q", 2000+uint64(i), m.Body))
	}
	s = checkOK(t, s, e)
	if len(e.Takes) != mostWork || len(s.Queues[0].Msgs) != mostWork+2 || s.Next != 2000+mostWork {
		t.Errorf("%s", show(s))
	}
}

func TestP14_6_GetOfPut(t *testing.T) {
	for _, s := range append(samples(), committed(), returned(), rows(300, 300, 300)) {
		b, no := store.Put(s)
		if no != api.OK {
			t.Errorf("Put of %s: %d", show(s), no)
			continue
		}
		if got, no := store.Get(b); no != api.OK || !store.Same(got, s) || store.Check(got) != api.OK {
			t.Errorf("Get of Put of %s: %s, %d", show(s), show(got), no)
		}
	}
}

func TestP14_6_PutOfGot(t *testing.T) {
	r := rand.New(rand.NewSource(146))
	pick := func(l ...string) string { return l[r.Intn(len(l))] }
	got := map[string]int{}
	for range 100000 {
		b := integer([]uint64{0, 1, 2, 3, mostId + 1, mostId + 2}[r.Intn(6)], 8)
		q := func() string {
			return pick("\x01p", "\x01q", "\x00") + integer(uint64(r.Intn(2)), 8) + pick(integer(0, 4), integer(1, 4)+messageBytes(message(1, "a"), head(api.Props{})), integer(1, 4)+messageBytes(message(2, "a"), head(api.Props{Id: "i"})))
		}
		b += pick(integer(0, 2), integer(1, 2)+q(), integer(2, 2)+q()+q())
		b += pick(integer(0, 2), integer(1, 2)+sized(prepBytes(api.BranchRow{X: x(), Puts: []api.Put{put("q", 0, "")}}), 4), integer(1, 2)+sized(prepBytes(api.BranchRow{X: x(), Takes: []api.Ref{ref("p", 1)}}), 4))
		b += pick(integer(0, 2), integer(1, 2)+heurBytes(api.HeurRow{X: x()}), integer(1, 2)+heurBytes(api.HeurRow{X: y(), Committed: true}))
		s, no := store.Get(b)
		if checkAsWorded(t, b) != (no == api.OK) || no != api.OK {
			continue
		}
		got[b]++
		if again, no := store.Put(s); no != api.OK || again != b {
			t.Errorf("Put of what Get got from %x: %x, %d", b, again, no)
		}
	}
	if len(got) < 100 {
		t.Errorf("%d of the strings are encodings", len(got))
	}
}

// Two stores have one encoding only if they are equal.
func TestP14_6_OneEncoding(t *testing.T) {
	encodings := map[string]string{}
	for _, s := range append(samples(), committed(), returned()) {
		b, no := store.Put(s)
		if other, is := encodings[b]; no != api.OK || is && other != told(s) {
			t.Errorf("%s and another store have one encoding: %.80x, %d", show(s), b, no)
		}
		encodings[b] = told(s)
	}
}
