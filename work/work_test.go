package work_test

import (
	"fmt"
	"math"
	"math/rand"
	"slices"
	"strings"
	"testing"

	"posthouse/api"
	"posthouse/store"
	"posthouse/work"
)

func TestP17_1_Examples(t *testing.T) {
	w := api.Work{Takes: []api.Ref{ref("q", 5)}}
	_, no := work.AddTake(w, ref("q", 5))
	checkWork(t, "AddTake", api.Work{}, no, api.Work{}, api.ErrThere)
	got, no := work.AddPut(api.Work{}, api.Put{Queue: "q", Id: 3})
	checkWork(t, "AddPut", got, no, api.Work{}, api.ErrEntry)
}

func TestP17_2_Examples(t *testing.T) {
	got, no := work.Do(example(), 7)
	checkEntry(t, "Do", got, no, api.Entry{
		Kind: api.EnDo, Puts: []api.Put{{Queue: "q", Id: 7, Body: "a"}, {Queue: "q", Id: 8, Body: "b"}}, Takes: []api.Ref{ref("q", 5)},
	}, api.OK)
	got, no = work.Prep(example(), api.Xid{})
	checkEntry(t, "Prep", got, no, api.Entry{}, api.ErrXid)
	got, no = work.Do(api.Work{Puts: puts(1)}, 0)
	checkEntry(t, "Do", got, no, api.Entry{}, api.ErrFull)
}

func TestP17_3_Examples(t *testing.T) {
	w := api.Work{Puts: []api.Put{put("q", ""), put("p", "")}, Takes: []api.Ref{ref("o", 1)}}
	if l := work.Queues(w); !slices.Equal(l, []string{"o", "p", "q"}) {
		t.Errorf("%q", l)
	}
	if n := work.Into(w, "q"); n != 1 {
		t.Error(n)
	}
	if l := work.From(w, "o"); !slices.Equal(l, []uint64{1}) {
		t.Error(l)
	}
}

func TestP17_1_Valid(t *testing.T) {
	for _, w := range valid() {
		checkValid(t, w, true)
	}
}

func TestP17_1_Broken(t *testing.T) {
	for _, w := range broken() {
		checkValid(t, w, false)
	}
}

// Any number of puts with any number of takes, around where there are too many.
func TestP17_1_Counts(t *testing.T) {
	counts := []int{0, 1, 2, mostWork - 1, mostWork, mostWork + 1, mostWork + 2, 2 * mostWork, 256, 256 + mostWork, 1000}
	for _, n := range counts {
		for _, m := range counts {
			checkValid(t, api.Work{Puts: puts(n), Takes: takes(m)}, n <= mostWork && m <= mostWork)
		}
	}
}

// One put or take among many, wherever it stands.
func TestP17_1_WrongAnywhere(t *testing.T) {
	for _, n := range []int{2, 3, mostWork} {
		for at := range n {
			w := api.Work{Puts: puts(n), Takes: takes(n)}
			w.Takes[at].Id = 0
			checkValid(t, w, false)
			w.Takes[at] = ref(" ", 1)
			checkValid(t, w, false)
			w.Takes[at] = ref("o", uint64(n))
			checkValid(t, w, true)
			w.Puts[at].Id = 1
			checkValid(t, w, false)
			w.Puts[at] = put("", "")
			checkValid(t, w, false)
		}
	}
}

// The same take twice, wherever the two stand.
func TestP17_1_TakenTwice(t *testing.T) {
	for _, n := range []int{2, 3, 5, mostWork} {
		for i := range n {
			for j := range i {
				w := api.Work{Takes: takes(n)}
				w.Takes[i] = w.Takes[j]
				checkValid(t, w, false)
				w.Takes[i].Queue = "qq"
				checkValid(t, w, true)
			}
		}
	}
}

// The same put twice is two messages, and what is put may have the body and the queue of what is taken.
func TestP17_1_TheSamePutTwice(t *testing.T) {
	var w api.Work
	for range 3 {
		w, _ = checkAddPut(t, w, api.Put{Queue: "q", Props: nested(), Body: "a"})
	}
	if len(w.Puts) != 3 {
		t.Error(showWork(w))
	}
	w, _ = checkAddTake(t, w, ref("q", 1))
	w, no := checkAddPut(t, w, put("q", ""))
	if no != api.OK || len(w.Puts) != 4 || len(w.Takes) != 1 {
		t.Error(showWork(w), no)
	}
}

// What is added at each edge to works of all sorts.
func TestP17_1_Adds(t *testing.T) {
	for _, w := range []api.Work{{}, example(), mixed(), fullest(), {Puts: puts(mostWork - 1), Takes: takes(mostWork - 1)}} {
		for _, p := range slices.Concat(goodPuts(), badPuts()) {
			_, no := checkAddPut(t, w, p)
			if want := map[bool]api.Errno{true: api.OK, false: api.ErrEntry}[isPut(p)]; no != want && (no != api.ErrFull || len(w.Puts) < mostWork) {
				t.Errorf("%d", no)
			}
		}
		for _, r := range slices.Concat(goodTakes(), badTakes(), w.Takes) {
			checkAddTake(t, w, r)
		}
	}
}

// Puts and takes are added until there is no place, and a put takes no place of a take.
func TestP17_1_UpToMaxWork(t *testing.T) {
	var w api.Work
	for i := range mostWork + 3 {
		got, no := checkAddPut(t, w, put("q", fmt.Sprint(i)))
		if (no == api.OK) != (i < mostWork) || i >= mostWork && no != api.ErrFull {
			t.Fatal(i, no)
		}
		if no == api.OK {
			w = got
		}
	}
	for i := range mostWork + 3 {
		got, no := checkAddTake(t, w, ref("q", uint64(i)+1))
		if (no == api.OK) != (i < mostWork) || i >= mostWork && no != api.ErrFull {
			t.Fatal(i, no)
		}
		if no == api.OK {
			w = got
		}
	}
	if want := (api.Work{Puts: puts(mostWork), Takes: w.Takes}); toldWork(w) != toldWork(want) || len(w.Takes) != mostWork {
		t.Error(showWork(w))
	}
}

// What is added stands at the end, and nothing else is moved.
func TestP17_1_Order(t *testing.T) {
	var w api.Work
	for i, id := range []uint64{9, 3, 5, 4, 1, mostId, 2} {
		w, _ = work.AddTake(w, ref("q", id))
		w, _ = work.AddPut(w, put("q", fmt.Sprint(id)))
		if len(w.Takes) != i+1 || w.Takes[i] != ref("q", id) || len(w.Puts) != i+1 || w.Puts[i].Body != fmt.Sprint(id) {
			t.Error(i, showWork(w))
		}
	}
	if got := work.From(w, "q"); !slices.Equal(got, []uint64{9, 3, 5, 4, 1, mostId, 2}) {
		t.Error(got)
	}
}

// Two takes are the same if the queue and the number are.
func TestP17_1_TakesApart(t *testing.T) {
	w := api.Work{Takes: []api.Ref{ref("q", 5)}}
	for _, c := range []struct {
		r  api.Ref
		no api.Errno
	}{
		{ref("q", 5), api.ErrThere}, {ref("q", 4), api.OK}, {ref("q", 6), api.OK}, {ref("q", 5+1<<8), api.OK}, {ref("q", 5+1<<32), api.OK},
		{ref("p", 5), api.OK}, {ref("Q", 5), api.OK}, {ref("qq", 5), api.OK}, {ref("q!", 5), api.OK}, {ref("q", 0), api.ErrEntry}, {ref("", 5), api.ErrEntry},
	} {
		if _, no := checkAddTake(t, w, c.r); no != c.no {
			t.Errorf("%v: %d, not %d", c.r, no, c.no)
		}
	}
}

// Where two errors apply, the first one is answered.
func TestP17_1_FirstError(t *testing.T) {
	full := fullest()
	for i, c := range []struct{ got, want api.Errno }{
		{second(work.AddTake(full, full.Takes[0])), api.ErrThere},
		{second(work.AddTake(full, full.Takes[mostWork-1])), api.ErrThere},
		{second(work.AddTake(full, ref("q", mostWork+1))), api.ErrFull},
		{second(work.AddTake(full, ref("q", 0))), api.ErrEntry},
		{second(work.AddTake(full, ref("", 1))), api.ErrEntry},
		{second(work.AddPut(full, put("q", ""))), api.ErrFull},
		{second(work.AddPut(full, api.Put{Queue: "q", Id: 1})), api.ErrEntry},
		{second(work.AddPut(full, put("", ""))), api.ErrEntry},
		{second(work.AddPut(full, put("q", long(mostBody+1)))), api.ErrEntry},
	} {
		if c.got != c.want {
			t.Errorf("%d: %d, not %d", i, c.got, c.want)
		}
	}
	for _, w := range broken() {
		for _, r := range append(w.Takes[:min(len(w.Takes), 2)], ref("q", 0), ref("free", 1)) {
			if got, no := checkAddTake(t, w, r); no != api.ErrEntry {
				t.Errorf("AddTake to %s: %s, %d", showWork(w), showWork(got), no)
			}
		}
		for _, p := range []api.Put{put("q", ""), {Queue: "q", Id: 1}} {
			if got, no := checkAddPut(t, w, p); no != api.ErrEntry {
				t.Errorf("AddPut to %s: %s, %d", showWork(w), showWork(got), no)
			}
		}
	}
}

func second[T any](_ T, no api.Errno) api.Errno { return no }

// Numbers are given one after the other, and none above the greatest one.
func TestP17_2_Numbers(t *testing.T) {
	for n := range mostWork + 1 {
		for _, next := range nexts(n) {
			want := api.OK
			if n > 0 && (next == 0 || next > mostId || next+uint64(n)-1 > mostId) {
				want = api.ErrFull
			}
			e, no := checkDo(t, api.Work{Puts: puts(n), Takes: takes(1)}, next)
			if no != want || len(e.Puts) != map[api.Errno]int{api.OK: n}[no] {
				t.Errorf("%d puts from %d on: %d, not %d", n, next, no, want)
			}
			for i, p := range e.Puts {
				if p.Id != next+uint64(i) || p.Body != fmt.Sprint(i) {
					t.Errorf("put %d of %d from %d on: %d %q", i, n, next, p.Id, p.Body)
				}
			}
		}
	}
}

// Without puts any number will do.
func TestP17_2_NoPuts(t *testing.T) {
	for _, next := range []uint64{0, 1, mostId, mostId + 1, 1 << 63, math.MaxUint64} {
		for _, w := range []api.Work{{}, {Puts: []api.Put{}, Takes: []api.Ref{}}} {
			got, no := work.Do(w, next)
			checkEntry(t, fmt.Sprint("Do from ", next), got, no, api.Entry{Kind: api.EnDo}, api.OK)
		}
		got, no := work.Do(api.Work{Takes: takes(3)}, next)
		checkEntry(t, fmt.Sprint("Do from ", next), got, no, api.Entry{Kind: api.EnDo, Takes: takes(3)}, api.OK)
	}
}

// One put, and several, with the numbers that are just below, at and above the greatest one.
func TestP17_2_NearMaxId(t *testing.T) {
	for _, c := range []struct {
		puts int
		next uint64
		no   api.Errno
	}{
		{1, 0, api.ErrFull}, {1, 1, api.OK}, {1, mostId - 1, api.OK}, {1, mostId, api.OK}, {1, mostId + 1, api.ErrFull}, {1, math.MaxUint64, api.ErrFull},
		{2, 0, api.ErrFull}, {2, 1, api.OK}, {2, mostId - 2, api.OK}, {2, mostId - 1, api.OK}, {2, mostId, api.ErrFull}, {2, mostId + 1, api.ErrFull}, {2, math.MaxUint64 - 1, api.ErrFull}, {2, math.MaxUint64, api.ErrFull},
		{mostWork, 0, api.ErrFull}, {mostWork, 1, api.OK}, {mostWork, mostId - 100, api.OK}, {mostWork, mostId - 99, api.OK}, {mostWork, mostId - 98, api.ErrFull}, {mostWork, mostId, api.ErrFull},
		{mostWork, math.MaxUint64 - 100, api.ErrFull}, {mostWork, math.MaxUint64 - 99, api.ErrFull}, {mostWork, math.MaxUint64 - 98, api.ErrFull}, {mostWork, math.MaxUint64, api.ErrFull},
	} {
		if _, no := checkDo(t, api.Work{Puts: puts(c.puts)}, c.next); no != c.no {
			t.Errorf("%d puts from %d on: %d, not %d", c.puts, c.next, no, c.no)
		}
	}
}

func TestP17_2_Valid(t *testing.T) {
	for _, w := range valid() {
		for _, next := range []uint64{1, 1000, mostId - 100} {
			if e, no := checkDo(t, w, next); no != api.OK || e.Kind != api.EnDo || len(e.Puts) != len(w.Puts) || !slices.Equal(e.Takes, w.Takes) {
				t.Errorf("Do of %s: %s, %d", showWork(w), show(e), no)
			}
		}
		if e, no := checkPrep(t, w, named(7, "a", "")); no != api.OK || e.Kind != api.EnPrep || e.X != named(7, "a", "") || len(e.Puts) != len(w.Puts) || !slices.Equal(e.Takes, w.Takes) {
			t.Errorf("Prep of %s: %s, %d", showWork(w), show(e), no)
		}
	}
}

// Of what is not valid nothing is made, whatever else is wrong.
func TestP17_2_Broken(t *testing.T) {
	for _, w := range broken() {
		for _, next := range []uint64{0, 1, mostId, mostId + 1, math.MaxUint64} {
			if e, no := checkDo(t, w, next); no != api.ErrEntry {
				t.Errorf("Do of %s from %d on: %s, %d", showWork(w), next, show(e), no)
			}
		}
		for _, x := range []api.Xid{named(7, "a", ""), {}, named(7, "", "b")} {
			if e, no := checkPrep(t, w, x); no != api.ErrEntry {
				t.Errorf("Prep of %s: %s, %d", showWork(w), show(e), no)
			}
		}
	}
}

func TestP17_2_Xids(t *testing.T) {
	for _, w := range []api.Work{{}, example(), mixed(), fullest(), {Puts: puts(1)}, {Takes: takes(1)}} {
		for _, x := range goodXids() {
			if e, no := checkPrep(t, w, x); no != api.OK || e.X != x {
				t.Errorf("Prep as %s: %d", show(api.Entry{X: x}), no)
			}
		}
		for _, x := range badXids() {
			if e, no := checkPrep(t, w, x); no != api.ErrXid {
				t.Errorf("Prep as %s: %s, %d", show(api.Entry{X: x}), show(e), no)
			}
		}
	}
}

func TestP17_3_Empty(t *testing.T) {
	for _, c := range []struct {
		w  api.Work
		is bool
	}{
		{api.Work{}, true}, {api.Work{Puts: []api.Put{}, Takes: []api.Ref{}}, true}, {api.Work{Puts: puts(1)}, false}, {api.Work{Takes: takes(1)}, false}, {example(), false}, {fullest(), false},
		{api.Work{Puts: puts(mostWork + 1)}, true}, {api.Work{Takes: takes(mostWork + 1)}, true}, {api.Work{Puts: []api.Put{{}}}, true}, {api.Work{Puts: puts(1), Takes: []api.Ref{ref("q", 0)}}, true},
	} {
		if is := work.Empty(c.w); is != c.is {
			t.Errorf("%s: %v", showWork(c.w), is)
		}
	}
}

// Names that differ by one byte, and one that is the beginning of another, put into and taken from in any order.
func TestP17_3_Names(t *testing.T) {
	names := []string{"!", "!!", "A", "Q", "a", "aA", "aa", "aaa", "ab", "b", "q", "q!", "qa", "q~", "r", long(mostName - 1), long(mostName), "~", "~!"}
	if !slices.IsSorted(names) {
		t.Fatal("not in order")
	}
	random := rand.New(rand.NewSource(3))
	for range 100 {
		var w api.Work
		n := map[string]int{}
		for id, name := range shuffled(random, append(names, names...)) {
			if id%3 == 0 {
				w.Takes = append(w.Takes, ref(name, uint64(id)+1))
			} else {
				w.Puts = append(w.Puts, put(name, ""))
				n[name]++
			}
		}
		if l := work.Queues(w); !slices.Equal(l, names) {
			t.Fatalf("%q", l)
		}
		for _, name := range names {
			if work.Into(w, name) != n[name] || len(work.From(w, name)) != 2-n[name] {
				t.Fatalf("%q: %d, %d", name, work.Into(w, name), work.From(w, name))
			}
		}
		checkLooks(t, w)
	}
}

func shuffled[T any](random *rand.Rand, l []T) []T {
	l = slices.Clone(l)
	random.Shuffle(len(l), func(i, j int) { l[i], l[j] = l[j], l[i] })
	return l
}

func TestP17_3_IntoAndFrom(t *testing.T) {
	w := mixed()
	for _, c := range []struct {
		name string
		into int
		from []uint64
	}{
		{"q", 2, []uint64{7, 5, 6}}, {"p", 2, []uint64{5}}, {"qq", 1, []uint64{mostId}}, {"o", 0, []uint64{3}},
		{"", 0, nil}, {"Q", 0, nil}, {"qqq", 0, nil}, {"q ", 0, nil}, {"q\x00", 0, nil}, {"\xff", 0, nil}, {long(mostName + 1), 0, nil},
	} {
		if n := work.Into(w, c.name); n != c.into {
			t.Errorf("Into %q: %d", c.name, n)
		}
		if l := work.From(w, c.name); !slices.Equal(l, c.from) {
			t.Errorf("From %q: %d", c.name, l)
		}
	}
	if l := work.Queues(w); !slices.Equal(l, []string{"o", "p", "q", "qq"}) {
		t.Errorf("%q", l)
	}
}

func TestP17_3_Valid(t *testing.T) {
	for _, w := range valid() {
		if !checkAll(t, w) {
			t.Errorf("not valid: %s", showWork(w))
		}
	}
}

// Of what is not valid there is nothing to be told.
func TestP17_3_Broken(t *testing.T) {
	for _, w := range broken() {
		if checkAll(t, w) {
			t.Errorf("valid: %s", showWork(w))
		}
		names := []string{"q", "", "qqq", "o", long(mostName)}
		for _, p := range w.Puts {
			names = append(names, p.Queue)
		}
		if !work.Empty(w) || len(work.Queues(w)) != 0 {
			t.Errorf("%s: %v, %q", showWork(w), work.Empty(w), work.Queues(w))
		}
		slices.Sort(names)
		for _, name := range slices.Compact(names) {
			if work.Into(w, name) != 0 || len(work.From(w, name)) != 0 {
				t.Errorf("%s, %+.50q: %d, %d", showWork(w), name, work.Into(w, name), work.From(w, name))
			}
		}
	}
}

// drawn is any work: of few queues and numbers, so that much of it is there twice, and now and then wrong.
func drawn(random *rand.Rand) api.Work {
	var w api.Work
	for range random.Intn(7) {
		w.Puts = append(w.Puts, drawnPut(random))
	}
	for range random.Intn(7) {
		w.Takes = append(w.Takes, drawnTake(random))
	}
	return w
}

func drawnName(random *rand.Rand) string {
	if random.Intn(60) == 0 {
		return badNames()[random.Intn(len(badNames()))]
	}
	return []string{"q", "p", "qq", "Q", "o"}[random.Intn(5)]
}

func drawnPut(random *rand.Rand) api.Put {
	p := put(drawnName(random), strings.Repeat("b", random.Intn(3)))
	if random.Intn(60) == 0 {
		p.Id = uint64(random.Intn(3))
	}
	if random.Intn(4) == 0 {
		p.Props = nested()
	}
	return p
}

func drawnTake(random *rand.Rand) api.Ref {
	return ref(drawnName(random), uint64(1+random.Intn(30))%30)
}

func TestP17_3_RandomWorks(t *testing.T) {
	random := rand.New(rand.NewSource(17))
	good, bad := 0, 0
	for range 2000 {
		if checkAll(t, drawn(random)) {
			good++
		} else {
			bad++
		}
	}
	if good < 500 || bad < 300 {
		t.Error(good, bad)
	}
}

// Works that are built up call by call.
func TestP17_1_RandomCalls(t *testing.T) {
	random := rand.New(rand.NewSource(4))
	seen := map[api.Errno]int{}
	for range 10 {
		var w api.Work
		for step := range 400 {
			var got api.Work
			var no api.Errno
			if random.Intn(2) == 0 {
				got, no = checkAddPut(t, w, drawnPut(random))
			} else {
				got, no = checkAddTake(t, w, ref(drawnName(random), uint64(random.Intn(80))))
			}
			seen[no]++
			if no == api.OK {
				w = got
			}
			if step%100 == 99 {
				checkAll(t, w)
			}
		}
	}
	for _, no := range []api.Errno{api.OK, api.ErrEntry, api.ErrThere, api.ErrFull} {
		if seen[no] < 50 {
			t.Errorf("%d only %d times", no, seen[no])
		}
	}
}

// roomy is the list, with room behind it in which that one stands.
func roomy[T any](l []T, behind T) []T {
	out := append(slices.Clone(l), behind, behind, behind)
	return out[:len(l)]
}

// roomyWork is w with room behind each of its lists, none of which it shares with w.
func roomyWork(w api.Work) api.Work {
	w = api.Work{Puts: roomy(w.Puts, put("behind", "behind")), Takes: roomy(w.Takes, ref("behind", 7))}
	for i := range w.Puts {
		w.Puts[i].Props.App = roomyValue(w.Puts[i].Props.App)
	}
	return w
}

func roomyValue(v api.Value) api.Value {
	v.Keys, v.List = roomy(v.Keys, "behind"), roomy(v.List, api.Value{Kind: api.ValueInt, N: 1})
	for i := range v.List {
		v.List[i] = roomyValue(v.List[i])
	}
	return v
}

// whole is w with each list up to its capacity.
func whole(w api.Work) api.Work {
	w = api.Work{Puts: slices.Clone(w.Puts[:cap(w.Puts)]), Takes: w.Takes[:cap(w.Takes)]}
	for i := range w.Puts {
		w.Puts[i].Props.App = wholeValue(w.Puts[i].Props.App)
	}
	return w
}

func wholeValue(v api.Value) api.Value {
	v.Keys, v.List = v.Keys[:cap(v.Keys)], slices.Clone(v.List[:cap(v.List)])
	for i := range v.List {
		v.List[i] = wholeValue(v.List[i])
	}
	return v
}

// answers calls all that answers lists, and returns the works among them, entries taken as works, and the other lists.
func answers(w api.Work, p api.Put) ([]api.Work, [][]string, [][]uint64) {
	one, _ := work.AddPut(w, p)
	other, _ := work.AddTake(w, ref("new", 1))
	do, _ := work.Do(w, 5)
	prep, _ := work.Prep(w, named(7, "a", "b"))
	work.Check(w)
	work.Empty(w)
	work.Into(w, "q")
	l := []api.Work{one, other, {Puts: do.Puts, Takes: do.Takes}, {Puts: prep.Puts, Takes: prep.Takes}}
	return l, [][]string{work.Queues(w)}, [][]uint64{work.From(w, "q"), work.From(w, "o")}
}

// What is passed in is not changed, nor is the memory behind it.
func TestP17_1_NothingChanged(t *testing.T) {
	for _, w := range slices.Concat(valid(), broken(), []api.Work{fullest(), mixed()}) {
		if slices.ContainsFunc(w.Puts, func(p api.Put) bool { return !isPut(p) }) {
			// Its values may have no end.
			continue
		}
		w = roomyWork(w)
		p := roomyWork(api.Work{Puts: []api.Put{{Queue: "q", Props: nested(), Body: "new"}}})
		was := toldWork(whole(w)) + toldWork(whole(p))
		answers(w, p.Puts[0])
		work.AddPut(w, api.Put{})
		work.AddTake(w, ref("q", 5))
		work.Do(w, 0)
		work.Prep(w, api.Xid{})
		if toldWork(whole(w))+toldWork(whole(p)) != was {
			t.Errorf("changed: %s", showWork(w))
		}
	}
}

// fill changes a list, with the room behind it.
func fill[T any](l []T, to T) {
	l = l[:cap(l)]
	for i := range l {
		l[i] = to
	}
}

// spoil changes all lists in w, with the room behind them.
func spoil(w api.Work) {
	for _, p := range w.Puts {
		spoilValue(p.Props.App)
	}
	fill(w.Puts, put("spoilt", "spoilt"))
	fill(w.Takes, ref("spoilt", 3))
}

func spoilValue(v api.Value) {
	for _, element := range v.List {
		spoilValue(element)
	}
	fill(v.Keys, "spoilt")
	fill(v.List, api.Value{Kind: api.ValueBool, N: 1})
}

// toldAll tells all answers.
func toldAll(works []api.Work, names [][]string, ids [][]uint64) string {
	var b strings.Builder
	for _, w := range works {
		b.WriteString(toldWork(w))
	}
	return b.String() + fmt.Sprintf("%q %d", names, ids)
}

// An answer shares no memory with what was passed in, nor with another answer.
func TestP17_2_NewMemory(t *testing.T) {
	for _, w := range []api.Work{mixed(), {Puts: mixed().Puts}, {Takes: mixed().Takes}, {}, {Puts: puts(mostWork - 1), Takes: takes(mostWork - 1)}} {
		w = roomyWork(w)
		p := roomyWork(api.Work{Puts: []api.Put{{Queue: "q", Props: nested(), Body: "new"}}})
		was := toldWork(whole(w)) + toldWork(whole(p))
		works, names, ids := answers(w, p.Puts[0])
		want := toldAll(works, names, ids)
		for i := range works {
			others, otherNames, otherIds := answers(w, p.Puts[0])
			spoil(others[i])
			fill(otherNames[0], "spoilt")
			fill(otherIds[0], 3)
			fill(otherIds[1], 3)
			others[i], otherNames, otherIds = works[i], names, ids
			if toldAll(others, otherNames, otherIds) != want || toldAll(works, names, ids) != want {
				t.Errorf("answer %d is one with another one: %s", i, showWork(w))
			}
			if toldWork(whole(w))+toldWork(whole(p)) != was {
				t.Errorf("what was passed in is changed with answer %d: %s", i, showWork(w))
			}
		}
		spoil(w)
		spoil(p)
		if toldAll(works, names, ids) != want {
			t.Errorf("the answers are changed with what was passed in: %s", showWork(w))
		}
	}
}

// No two lists of an answer share memory, even where those of an argument do.
func TestP17_2_ListsApart(t *testing.T) {
	one := api.Put{Queue: "q", Props: nested()}
	w := api.Work{Puts: []api.Put{one, one, one}}
	works, _, _ := answers(w, one)
	for _, got := range works {
		for i := range got.Puts {
			was := got.Puts[i].Props.App
			spoilValue(was)
			got.Puts[i].Props.App = nested().App
			for j := range got.Puts {
				if d := got.Puts[j]; told(api.Entry{Puts: []api.Put{{Queue: "q", Props: d.Props}}}) != told(api.Entry{Puts: []api.Put{one}}) {
					t.Errorf("put %d is changed with put %d", j, i)
				}
			}
		}
	}
	if toldWork(w) != toldWork(api.Work{Puts: []api.Put{{Queue: "q", Props: nested()}, {Queue: "q", Props: nested()}, {Queue: "q", Props: nested()}}}) {
		t.Error("what was passed in is changed")
	}
}

// Whoever appends to an answer, or adds to it twice, finds both apart.
func TestP17_1_Appends(t *testing.T) {
	var w api.Work
	for i := range 20 {
		w, _ = work.AddPut(w, put("q", fmt.Sprint(i)))
		w, _ = work.AddTake(w, ref("q", uint64(i)+1))
		a, _ := work.AddPut(w, put("a", "a"))
		b, _ := work.AddPut(w, put("b", "b"))
		c, _ := work.AddTake(w, ref("c", 1))
		d, _ := work.AddTake(w, ref("d", 1))
		appended := append(w.Puts, put("e", "e"))
		other := append(w.Puts, put("f", "f"))
		taken := append(w.Takes, ref("e", 1))
		otherTaken := append(w.Takes, ref("f", 1))
		for _, last := range []struct{ got, want string }{
			{a.Puts[i+1].Queue, "a"}, {b.Puts[i+1].Queue, "b"}, {c.Takes[i+1].Queue, "c"}, {d.Takes[i+1].Queue, "d"},
			{appended[i+1].Queue, "e"}, {other[i+1].Queue, "f"}, {taken[i+1].Queue, "e"}, {otherTaken[i+1].Queue, "f"},
		} {
			if last.got != last.want {
				t.Errorf("%d: %s, not %s", i, last.got, last.want)
			}
		}
		for _, e := range []api.Entry{first(work.Do(w, 1)), first(work.Prep(w, named(1, "a", "")))} {
			l, m := append(e.Puts, put("l", "")), append(e.Takes, ref("m", 1))
			n, o := append(e.Puts, put("n", "")), append(e.Takes, ref("o", 1))
			if l[i+1].Queue != "l" || m[i+1].Queue != "m" || n[i+1].Queue != "n" || o[i+1].Queue != "o" {
				t.Errorf("%d: %s", i, show(e))
			}
		}
	}
}

func first[T any](one T, _ api.Errno) T { return one }

// Where a list may be nil or empty, the answer is the same, and what is none is nil.
func TestP17_1_NilAndEmpty(t *testing.T) {
	for _, w := range []api.Work{{}, {Puts: []api.Put{}}, {Takes: []api.Ref{}}, {Puts: []api.Put{}, Takes: []api.Ref{}}} {
		if !checkAll(t, w) {
			t.Error(showWork(w))
		}
		do, _ := work.Do(w, 1)
		prep, _ := work.Prep(w, named(7, "a", ""))
		if do.Puts != nil || do.Takes != nil || prep.Puts != nil || prep.Takes != nil || work.Queues(w) != nil || work.From(w, "q") != nil {
			t.Error(do, prep)
		}
	}
}

// stores are stores with messages, by which works can be done.
func stores() []api.Store {
	q := api.QueueRow{Name: "q", Limit: 3, Msgs: []api.MsgRow{{Id: 1, Body: "a"}, {Id: 2, Props: nested()}, {Id: 5, Body: "c"}, {Id: 7}}}
	p := api.QueueRow{Name: "p", Limit: 1, Msgs: []api.MsgRow{{Id: 3}, {Id: 4, Props: api.Props{Redelivered: true}}}}
	qq := api.QueueRow{Name: "qq", Limit: mostId}
	prep := api.BranchRow{X: named(7, "a", ""), Puts: puts(2), Takes: []api.Ref{ref("q", 7)}}
	var l []api.Store
	for _, next := range []uint64{8, 1000, mostId - 4, mostId - 1, mostId, mostId + 1} {
		for _, branches := range [][]api.BranchRow{nil, {prep}} {
			l = append(l, api.Store{Next: next, Queues: []api.QueueRow{p, q, qq}, Branches: branches, Heurs: []api.HeurRow{{X: named(9, "h", "")}}})
		}
	}
	return l
}

// one does a work in an entry of its own, with the number that is next.
func one(s api.Store, w api.Work) (api.Store, api.Errno) {
	e := api.Entry{Kind: 3, Puts: slices.Clone(w.Puts), Takes: w.Takes}
	for i := range e.Puts {
		e.Puts[i].Id = s.Next
	}
	return store.Apply(s, e)
}

// oneByOne does the takes of w and then its puts, each in an entry of its own.
func oneByOne(s api.Store, w api.Work) (api.Store, api.Errno) {
	no := api.OK
	for _, r := range w.Takes {
		if s, no = one(s, api.Work{Takes: []api.Ref{r}}); no != api.OK {
			return s, no
		}
	}
	for _, p := range w.Puts {
		if s, no = one(s, api.Work{Puts: []api.Put{p}}); no != api.OK {
			return s, no
		}
	}
	return s, no
}

// checkDone asks whether what Do answers does to s what w does one by one, and tells whether it can be done.
func checkDone(t *testing.T, s api.Store, w api.Work) bool {
	t.Helper()
	e, no := checkDo(t, w, s.Next)
	if no != api.OK {
		return false
	}
	got, no := store.Apply(s, e)
	want, wantNo := oneByOne(s, w)
	if (no == api.OK) != (wantNo == api.OK) {
		t.Errorf("%s: %d at once, %d one by one", showWork(w), no, wantNo)
	}
	if no == api.OK && (!store.Same(got, want) || got.Next != s.Next+uint64(len(w.Puts))) {
		t.Errorf("%s: not the same at once and one by one", showWork(w))
	}
	return no == api.OK
}

// A work that is done at once does what it does one by one.
func TestP17_4_AtOnce(t *testing.T) {
	random := rand.New(rand.NewSource(8))
	for i, s := range stores() {
		can, can2 := 0, 0
		for range 600 {
			var w api.Work
			for range random.Intn(4) {
				w.Puts = append(w.Puts, api.Put{Queue: []string{"p", "q", "q", "qq", "p", "q", "qq", "o"}[random.Intn(8)], Props: goodProps()[random.Intn(8)], Body: fmt.Sprint(random.Intn(5))})
			}
			for range random.Intn(4) {
				w.Takes = append(w.Takes, []api.Ref{ref("q", 1), ref("q", 2), ref("q", 5), ref("q", 7), ref("p", 3), ref("p", 4), ref("qq", 1), ref("q", 9)}[random.Intn(8)])
			}
			if checkDone(t, s, w) {
				can++
				if len(w.Puts) > 0 && len(w.Takes) > 0 {
					can2++
				}
			}
		}
		if can < 40 || can2 < 20 && s.Next <= mostId {
			t.Errorf("store %d: %d, %d", i, can, can2)
		}
	}
}

// The same with as many puts and takes as there may be.
func TestP17_4_MostWork(t *testing.T) {
	for _, next := range []uint64{mostWork + 1, 1000, mostId - 99} {
		s := api.Store{Next: next, Queues: []api.QueueRow{{Name: "q", Limit: 1}}}
		for i := range uint64(mostWork) {
			s.Queues[0].Msgs = append(s.Queues[0].Msgs, api.MsgRow{Id: i + 1})
		}
		if !checkDone(t, s, fullest()) {
			t.Error(next)
		}
		if !checkDone(t, s, api.Work{Puts: puts(mostWork), Takes: takes(3)}) {
			t.Error(next)
		}
	}
}

// What Prep answers makes the branch of a store, which is committed as what Do answers is done.
func TestP17_4_Prepared(t *testing.T) {
	x := named(1<<31+1, "1", "b")
	s := stores()[0]
	for _, w := range []api.Work{{}, {Puts: mixed().Puts}, {Takes: []api.Ref{ref("q", 5), ref("p", 3)}}, {Puts: mixed().Puts, Takes: []api.Ref{ref("q", 5), ref("p", 3)}}} {
		e, _ := checkPrep(t, w, x)
		got, no := store.Apply(s, e)
		if no != api.OK || len(got.Branches) != 1 || got.Branches[0].X != x {
			t.Fatalf("%s: %d", showWork(w), no)
		}
		got, no = store.Apply(got, api.Entry{Kind: api.EnCommit, X: x, N: s.Next})
		want, wantNo := oneByOne(s, w)
		if no != api.OK || wantNo != api.OK || !store.Same(got, want) {
			t.Errorf("%s: %d, %d", showWork(w), no, wantNo)
		}
	}
}
