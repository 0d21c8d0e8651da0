package work_test

import (
	"fmt"
	"math"
	"reflect"
	"regexp"
	"slices"
	"strings"
	"testing"

	"posthouse/api"
	"posthouse/entry"
	"posthouse/props"
	"posthouse/work"
)

// The limits as the chapters tell them.
const (
	mostName  = 40
	mostId    = 1 << 40
	mostBody  = 4096
	mostProps = 8192
	mostWork  = 100
	mostPart  = 64
)

var queueName = regexp.MustCompile(`^[\x21-\x7e]{1,40}$`)

// isPut tells whether p is a valid put with the Id 0, by the words of layer 13.
func isPut(p api.Put) bool {
	s, no := props.Put(p.Props)
	return queueName.MatchString(p.Queue) && p.Id == 0 && no == api.OK && len(s) <= mostProps && len(p.Body) <= mostBody
}

// isTake tells whether r is a valid take, by the words of layer 13.
func isTake(r api.Ref) bool {
	return queueName.MatchString(r.Queue) && 1 <= r.Id && r.Id <= mostId
}

// isXid tells whether x is a valid name, by the words of layer 4.
func isXid(x api.Xid) bool {
	return 1 <= len(x.Global) && len(x.Global) <= mostPart && len(x.Branch) <= mostPart
}

// judged tells whether w is valid, by the chapter's words.
func judged(w api.Work) bool {
	if len(w.Puts) > mostWork || len(w.Takes) > mostWork {
		return false
	}
	for _, p := range w.Puts {
		if !isPut(p) {
			return false
		}
	}
	for i, r := range w.Takes {
		if !isTake(r) {
			return false
		}
		for _, before := range w.Takes[:i] {
			if before == r {
				return false
			}
		}
	}
	return true
}

// withPut is what the chapter's words say of AddPut.
func withPut(w api.Work, p api.Put) (api.Work, api.Errno) {
	if !judged(w) || !isPut(p) {
		return api.Work{}, api.ErrEntry
	}
	if len(w.Puts) == mostWork {
		return api.Work{}, api.ErrFull
	}
	return api.Work{Puts: slices.Concat(w.Puts, []api.Put{p}), Takes: w.Takes}, api.OK
}

// withTake is what the chapter's words say of AddTake.
func withTake(w api.Work, r api.Ref) (api.Work, api.Errno) {
	if !judged(w) || !isTake(r) {
		return api.Work{}, api.ErrEntry
	}
	for _, there := range w.Takes {
		if there == r {
			return api.Work{}, api.ErrThere
		}
	}
	if len(w.Takes) == mostWork {
		return api.Work{}, api.ErrFull
	}
	return api.Work{Puts: w.Puts, Takes: slices.Concat(w.Takes, []api.Ref{r})}, api.OK
}

// done is what the chapter's words say of Do. It counts one by one, so that no sum can wrap round.
func done(w api.Work, next uint64) (api.Entry, api.Errno) {
	if !judged(w) {
		return api.Entry{}, api.ErrEntry
	}
	e := api.Entry{Kind: 3, Takes: w.Takes}
	for _, p := range w.Puts {
		if next == 0 || next > mostId {
			return api.Entry{}, api.ErrFull
		}
		p.Id = next
		e.Puts = append(e.Puts, p)
		next++
	}
	return e, api.OK
}

// prepared is what the chapter's words say of Prep.
func prepared(w api.Work, x api.Xid) (api.Entry, api.Errno) {
	if !judged(w) {
		return api.Entry{}, api.ErrEntry
	}
	if !isXid(x) {
		return api.Entry{}, api.ErrXid
	}
	return api.Entry{Kind: 4, X: x, Puts: w.Puts, Takes: w.Takes}, api.OK
}

// queues are the names of the queues of w, if it is valid: each that is not there yet before the first one that is above it.
func queues(w api.Work) []string {
	var names []string
	add := func(name string) {
		at := 0
		for at < len(names) && names[at] < name {
			at++
		}
		if at == len(names) || names[at] != name {
			names = slices.Insert(names, at, name)
		}
	}
	if judged(w) {
		for _, p := range w.Puts {
			add(p.Queue)
		}
		for _, r := range w.Takes {
			add(r.Queue)
		}
	}
	return names
}

// into is how many puts of w go into a queue; of w that is not valid there are none.
func into(w api.Work, queue string) int {
	n := 0
	for _, p := range w.Puts {
		if p.Queue == queue {
			n++
		}
	}
	if !judged(w) {
		return 0
	}
	return n
}

// from are the numbers of the takes of w from a queue; of w that is not valid there are none.
func from(w api.Work, queue string) []uint64 {
	var ids []uint64
	for _, r := range w.Takes {
		if r.Queue == queue {
			ids = append(ids, r.Id)
		}
	}
	if !judged(w) {
		return nil
	}
	return ids
}

// told tells entries so that two of them are told alike if and only if they are equal.
func told(e api.Entry) string {
	var b strings.Builder
	fmt.Fprintf(&b, "%d %+q %d %d.%x.%x", e.Kind, e.Name, e.N, e.X.Format, e.X.Global, e.X.Branch)
	for _, p := range e.Puts {
		fmt.Fprintf(&b, " put %+q %d %+q %v %v %+q ", p.Queue, p.Id, p.Props.Key, p.Props.Durable, p.Props.Redelivered, p.Props.Id)
		tell(&b, p.Props.App)
		fmt.Fprintf(&b, " %+q", p.Body)
	}
	for _, r := range e.Takes {
		fmt.Fprintf(&b, " take %+q %d", r.Queue, r.Id)
	}
	return b.String()
}

func tell(b *strings.Builder, v api.Value) {
	fmt.Fprintf(b, "{%d %d %+q %+q", v.Kind, v.N, v.S, v.Keys)
	for _, element := range v.List {
		tell(b, element)
	}
	b.WriteString("}")
}

// toldWork tells works as told does entries.
func toldWork(w api.Work) string { return told(api.Entry{Puts: w.Puts, Takes: w.Takes}) }

// show tells an entry, valid or not, in a line that is not too long, without going into any App.
func show(e api.Entry) string {
	s := fmt.Sprintf("%d %d.%.40x.%.40x, %d puts, %d takes:", e.Kind, e.X.Format, e.X.Global, e.X.Branch, len(e.Puts), len(e.Takes))
	for _, p := range e.Puts[:min(len(e.Puts), 3)] {
		s += fmt.Sprintf(" put %+.50q %d %+.20q %v %v %+.20q App %d %d, %d bytes", p.Queue, p.Id, p.Props.Key, p.Props.Durable, p.Props.Redelivered, p.Props.Id, p.Props.App.Kind, len(p.Props.App.List), len(p.Body))
	}
	for _, r := range e.Takes[:min(len(e.Takes), 3)] {
		s += fmt.Sprintf(" take %+.50q %d", r.Queue, r.Id)
	}
	return s
}

func showWork(w api.Work) string { return show(api.Entry{Puts: w.Puts, Takes: w.Takes}) }

// checkValid asks whether Check judges w as it is.
func checkValid(t *testing.T, w api.Work, is bool) {
	t.Helper()
	want := api.OK
	if !is {
		want = api.ErrEntry
	}
	if no := work.Check(w); no != want {
		t.Errorf("Check of %s: %d", showWork(w), no)
	}
	if judged(w) != is {
		t.Errorf("the model's word on %s: %v", showWork(w), !is)
	}
}

// checkWork asks whether a call answered a work, or an error and nothing else.
func checkWork(t *testing.T, what string, got api.Work, no api.Errno, want api.Work, wantNo api.Errno) {
	t.Helper()
	if no != wantNo || no == api.OK && toldWork(got) != toldWork(want) || no != api.OK && !reflect.DeepEqual(got, api.Work{}) {
		t.Errorf("%s: %s, %d, not %s, %d", what, showWork(got), no, showWork(want), wantNo)
	}
	if no == api.OK && work.Check(got) != api.OK {
		t.Errorf("%s: not valid: %s", what, showWork(got))
	}
}

// checkEntry asks whether a call answered a valid entry, or an error and nothing else.
func checkEntry(t *testing.T, what string, got api.Entry, no api.Errno, want api.Entry, wantNo api.Errno) {
	t.Helper()
	if no != wantNo || no == api.OK && told(got) != told(want) || no != api.OK && !reflect.DeepEqual(got, api.Entry{}) {
		t.Errorf("%s: %s, %d, not %s, %d", what, show(got), no, show(want), wantNo)
	}
	if no == api.OK && entry.Check(got) != api.OK {
		t.Errorf("%s: not valid: %s", what, show(got))
	}
}

// checkAddPut asks whether AddPut answers as the chapter words it, and hands on what it answered.
func checkAddPut(t *testing.T, w api.Work, p api.Put) (api.Work, api.Errno) {
	t.Helper()
	got, no := work.AddPut(w, p)
	want, wantNo := withPut(w, p)
	checkWork(t, "AddPut to "+showWork(w)+" of"+showWork(api.Work{Puts: []api.Put{p}}), got, no, want, wantNo)
	return got, no
}

// checkAddTake asks whether AddTake answers as the chapter words it, and hands on what it answered.
func checkAddTake(t *testing.T, w api.Work, r api.Ref) (api.Work, api.Errno) {
	t.Helper()
	got, no := work.AddTake(w, r)
	want, wantNo := withTake(w, r)
	checkWork(t, "AddTake to "+showWork(w)+" of"+showWork(api.Work{Takes: []api.Ref{r}}), got, no, want, wantNo)
	return got, no
}

// checkDo asks whether Do answers as the chapter words it, and hands on what it answered.
func checkDo(t *testing.T, w api.Work, next uint64) (api.Entry, api.Errno) {
	t.Helper()
	got, no := work.Do(w, next)
	want, wantNo := done(w, next)
	checkEntry(t, fmt.Sprintf("Do of %s, %d", showWork(w), next), got, no, want, wantNo)
	return got, no
}

// checkPrep asks whether Prep answers as the chapter words it, and hands on what it answered.
func checkPrep(t *testing.T, w api.Work, x api.Xid) (api.Entry, api.Errno) {
	t.Helper()
	got, no := work.Prep(w, x)
	want, wantNo := prepared(w, x)
	checkEntry(t, "Prep of "+showWork(w)+" as "+show(api.Entry{X: x}), got, no, want, wantNo)
	return got, no
}

// checkLooks asks whether all that only looks at w answers as the chapter words it, of the queues that w names, those beside, and others.
func checkLooks(t *testing.T, w api.Work) {
	t.Helper()
	checkValid(t, w, judged(w))
	if is := work.Empty(w); is != (!judged(w) || len(w.Puts) == 0 && len(w.Takes) == 0) {
		t.Errorf("Empty of %s: %v", showWork(w), is)
	}
	got := work.Queues(w)
	if !slices.Equal(got, queues(w)) {
		t.Errorf("Queues of %s: %q, not %q", showWork(w), got, queues(w))
	}
	names := append([]string{"", "q", "Q", "qq", " ", "q\x00", "\xff", "p", "o", "no", long(mostName), long(mostName + 1)}, got...)
	for _, p := range w.Puts[:min(len(w.Puts), mostWork)] {
		names = append(names, p.Queue)
	}
	for _, r := range w.Takes[:min(len(w.Takes), mostWork)] {
		names = append(names, r.Queue)
	}
	slices.Sort(names)
	for _, name := range slices.Compact(names) {
		if n := work.Into(w, name); n != into(w, name) {
			t.Errorf("Into of %s, %+.60q: %d, not %d", showWork(w), name, n, into(w, name))
		}
		if l := work.From(w, name); !slices.Equal(l, from(w, name)) {
			t.Errorf("From of %s, %+.60q: %d, not %d", showWork(w), name, l, from(w, name))
		}
	}
}

// checkAll asks whether each call with w answers as the chapter words it, and tells whether w is valid.
func checkAll(t *testing.T, w api.Work) bool {
	t.Helper()
	checkLooks(t, w)
	for _, p := range []api.Put{put("q", "new"), put("new", ""), {}, {Queue: "q", Id: 3}} {
		checkAddPut(t, w, p)
	}
	for _, r := range append(slices.Clone(w.Takes[:min(len(w.Takes), 3)]), ref("q", 9), ref("new", 1), ref("q", 0), ref("", 9), api.Ref{}) {
		checkAddTake(t, w, r)
	}
	for _, next := range nexts(len(w.Puts)) {
		checkDo(t, w, next)
	}
	for _, x := range []api.Xid{named(7, "a", ""), named(1<<31+1, "1", "\xff"), {}, named(7, "", "b"), named(7, "a", long(mostPart+1))} {
		checkPrep(t, w, x)
	}
	return judged(w)
}

// nexts are numbers of the next message at which something changes with that many puts.
func nexts(puts int) []uint64 {
	n := uint64(puts)
	return []uint64{
		0, 1, 2, 255, 256, 1<<32 - 1, 1 << 32, mostId - 101, mostId - 100, mostId - 99, mostId - n - 1, mostId - n, mostId - n + 1, mostId - n + 2, mostId - 1, mostId, mostId + 1, mostId + 2,
		1<<41 - 1, 1 << 41, 1 << 63, math.MaxUint64 - 101, math.MaxUint64 - 100, math.MaxUint64 - n - 1, math.MaxUint64 - n, math.MaxUint64 - n + 1, math.MaxUint64 - 1, math.MaxUint64,
	}
}

// long is a string of so many bytes.
func long(n int) string { return strings.Repeat("x", n) }

// named is a branch's name.
func named(format uint32, global, branch string) api.Xid {
	return api.Xid{Format: format, Global: global, Branch: branch}
}

func ref(queue string, id uint64) api.Ref { return api.Ref{Queue: queue, Id: id} }

// put is a short put.
func put(queue, body string) api.Put { return api.Put{Queue: queue, Body: body} }

// puts and takes are so many, no two of them equal.
func puts(n int) []api.Put {
	var l []api.Put
	for i := range n {
		l = append(l, put("q", fmt.Sprint(i)))
	}
	return l
}

func takes(n int) []api.Ref {
	var l []api.Ref
	for i := range n {
		l = append(l, ref("q", uint64(n-i)))
	}
	return l
}

// goodNames are queue names, badNames none.
func goodNames() []string {
	return []string{"q", "!", "~", "a.b", "!~", "0", "\x22'\\", "qq", "q!", "Q", long(mostName - 1), long(mostName), strings.Repeat("~", mostName)}
}

func badNames() []string {
	return []string{
		"", " ", "\x7f", "\x00", "\xff", "\n", "é", "a b", "q\n", "\nq", "q\x00", " q", "q ", "q\x7f", "\x80",
		long(mostName + 1), long(mostName+1) + " ", long(mostName-1) + " ", long(255), long(256), long(257), long(256 + mostName), long(1 << 16),
	}
}

// goodIds are message numbers, badIds none.
func goodIds() []uint64 { return []uint64{1, 2, 255, 256, 1<<32 - 1, 1 << 32, mostId - 1, mostId} }
func badIds() []uint64 {
	return []uint64{0, mostId + 1, mostId + 2, 1<<40 + 1<<8, 1 << 41, 1<<48 + 1, 1 << 56, 1 << 63, math.MaxUint64 - mostId, math.MaxUint64}
}

// goodXids are valid names, badXids none.
func goodXids() []api.Xid {
	return []api.Xid{
		named(0, "a", ""), named(7, "a", "b"), named(7, "\x00\xff", "\x80"), named(1<<31-1, "a", ""), named(1<<31, "a", long(mostPart)), named(1<<31+1, "1", ""), named(math.MaxUint32, long(mostPart), ""), named(1, long(mostPart), strings.Repeat("\xff", mostPart)), named(0, "\x00", "\x00"),
	}
}

func badXids() []api.Xid {
	return []api.Xid{
		{}, named(7, "", ""), named(0, "", "b"), named(7, "", "b"), named(0, long(mostPart+1), ""), named(0, "a", long(mostPart+1)), named(7, long(255), "b"), named(7, "a", long(255)),
		named(7, long(256), "b"), named(7, "a", long(256)), named(7, long(257), ""), named(math.MaxUint32, long(1000), long(1000)),
	}
}

func dict(keys string, l ...api.Value) api.Value {
	return api.Value{Kind: api.ValueMap, Keys: strings.Split(keys, "."), List: l}
}

func void() api.Value { return api.Value{Kind: api.ValueVoid} }

func ofBytes(n int) api.Value { return api.Value{Kind: api.ValueBytes, S: long(n)} }

// size is how many bytes the encoding of valid properties has.
func size(p api.Props) int {
	s, no := props.Put(p)
	if no != api.OK {
		panic(no)
	}
	return len(s)
}

// heavy are properties whose encoding has just so many bytes, from 4200 to 8230.
func heavy(want int) api.Props {
	p := api.Props{App: dict("a.b", ofBytes(4096), ofBytes(0))}
	p.App.List[1] = ofBytes(want - size(p))
	if size(p) != want {
		panic(want)
	}
	return p
}

// nested are properties whose App has lists in lists.
func nested() api.Props {
	return api.Props{Key: "\x00", Durable: true, Id: "\xff", App: dict("k.l", dict("m.n", void(), dict("o", void())), api.Value{Kind: api.ValueList, List: []api.Value{void(), {Kind: api.ValueNum, N: 9}}})}
}

// goodProps are properties of a valid put.
func goodProps() []api.Props {
	return []api.Props{
		{}, {Key: "q"}, {Key: "q", Durable: true}, {Redelivered: true}, {Id: "a"}, nested(), {App: api.Value{Kind: api.ValueMap}}, {App: api.Value{Keys: []string{}, List: []api.Value{}}},
		{Key: long(255), Id: long(255)}, heavy(mostProps - 1), heavy(mostProps), {App: dict("k", dict("k", dict("k", dict("k", dict("k", void())))))},
	}
}

// badProps are properties of no valid put: those that are not valid, and those whose encoding is too long.
func badProps() []api.Props {
	return []api.Props{
		{Key: long(256)}, {Id: long(256)}, {App: void()}, {App: api.Value{N: 1}}, {App: api.Value{S: "a"}}, {App: api.Value{Keys: []string{""}}}, {App: api.Value{List: []api.Value{void()}}},
		{App: dict("k")}, {App: dict("k.k", void(), void())}, {App: dict("", void())}, {App: dict("k", api.Value{})}, {App: dict("k", api.Value{Kind: api.ValueBool, N: 2})}, {App: dict("k", ofBytes(4097))},
		{App: endless()}, {App: dict("k", dict("k", dict("k", dict("k", dict("k", dict("k", void()))))))}, heavy(mostProps + 1), heavy(mostProps + 2),
	}
}

// endless is a map that contains itself.
func endless() api.Value {
	v := dict("k", void())
	v.List[0] = v
	return v
}

// goodBodies are bodies of a valid put, badBodies of none.
func goodBodies() []string {
	return []string{"", "b", "\x00", "\xff\x00", long(255), long(256), long(mostBody - 1), long(mostBody), strings.Repeat("\xff", mostBody)}
}

func badBodies() []string {
	return []string{long(mostBody + 1), long(mostBody + 2), long(8192), long(65535), long(65536), long(65537), long(65536 + mostBody), long(1 << 20)}
}

// variants are p with each of the names, the numbers, the properties and the bodies.
func variants(p api.Put, names []string, ids []uint64, properties []api.Props, bodies []string) []api.Put {
	var l []api.Put
	one := p
	for _, one.Queue = range names {
		l = append(l, one)
	}
	one = p
	for _, one.Id = range ids {
		l = append(l, one)
	}
	one = p
	for _, one.Props = range properties {
		l = append(l, one)
	}
	one = p
	for _, one.Body = range bodies {
		l = append(l, one)
	}
	return l
}

// goodPuts are valid puts, each of them with one field at an edge.
func goodPuts() []api.Put {
	return variants(put("q", "b"), goodNames(), nil, goodProps(), goodBodies())
}

// badPuts are puts that are not valid, or have a number, each for one reason but the first two.
func badPuts() []api.Put {
	l := []api.Put{{}, {Queue: "", Id: 3}}
	return append(l, variants(put("q", "b"), badNames(), append(badIds()[1:], goodIds()...), badProps(), badBodies())...)
}

func goodTakes() []api.Ref {
	var l []api.Ref
	for _, name := range goodNames() {
		l = append(l, ref(name, 3))
	}
	for _, id := range goodIds() {
		l = append(l, ref("q", id))
	}
	return l
}

// badTakes are takes that are not valid, each for one reason but the first two.
func badTakes() []api.Ref {
	l := []api.Ref{{}, {Id: mostId + 1}}
	for _, name := range badNames() {
		l = append(l, ref(name, 3))
	}
	for _, id := range badIds() {
		l = append(l, ref("q", id))
	}
	return l
}

// example has the puts a and b into q, and takes q 5.
func example() api.Work {
	return api.Work{Puts: []api.Put{put("q", "a"), put("q", "b")}, Takes: []api.Ref{ref("q", 5)}}
}

// mixed puts into several queues and takes from several, some of them the same.
func mixed() api.Work {
	return api.Work{
		Puts:  []api.Put{{Queue: "q", Props: nested(), Body: "\x00"}, put("p", "b"), put("qq", ""), put("q", "c"), {Queue: "p", Props: nested(), Body: "\x00"}},
		Takes: []api.Ref{ref("q", 7), ref("o", 3), ref("q", 5), ref("p", 5), ref("q", 6), ref("qq", mostId)},
	}
}

// fullest has as many puts and takes as there may be.
func fullest() api.Work { return api.Work{Puts: puts(mostWork), Takes: takes(mostWork)} }

// valid are valid works.
func valid() []api.Work {
	l := []api.Work{{}, {Puts: []api.Put{}, Takes: []api.Ref{}}, example(), mixed(), fullest(), {Puts: mixed().Puts}, {Takes: mixed().Takes}, {Puts: goodPuts()}}
	for _, n := range []int{1, 2, 3, mostWork - 1, mostWork} {
		l = append(l, api.Work{Puts: puts(n)}, api.Work{Takes: takes(n)}, api.Work{Puts: puts(n), Takes: takes(mostWork - n)}, api.Work{Puts: slices.Repeat(puts(1), n), Takes: takes(n)})
	}
	for _, p := range goodPuts() {
		l = append(l, api.Work{Puts: []api.Put{p}}, api.Work{Puts: []api.Put{put("q", ""), p, p}, Takes: takes(1)})
	}
	for _, r := range goodTakes() {
		l = append(l, api.Work{Takes: []api.Ref{r}}, api.Work{Puts: puts(1), Takes: []api.Ref{ref("qqq", 3), r}})
	}
	return l
}

// broken are works that are not valid, each for one reason.
func broken() []api.Work {
	var l []api.Work
	for _, n := range []int{mostWork + 1, mostWork + 2, 255, 256, 257, 356} {
		l = append(l, api.Work{Puts: puts(n)}, api.Work{Takes: takes(n)}, api.Work{Puts: puts(n), Takes: takes(1)}, api.Work{Puts: puts(mostWork), Takes: takes(n)})
	}
	for _, p := range badPuts() {
		l = append(l, api.Work{Puts: []api.Put{p}}, api.Work{Puts: []api.Put{put("q", ""), p, put("q", "")}, Takes: takes(1)})
	}
	for _, r := range badTakes() {
		l = append(l, api.Work{Takes: []api.Ref{r}}, api.Work{Puts: puts(1), Takes: []api.Ref{ref("q", 3), r, ref("q", 4)}})
	}
	for _, r := range goodTakes() {
		l = append(l, api.Work{Takes: []api.Ref{r, r}}, api.Work{Puts: puts(1), Takes: []api.Ref{r, ref("qqq", 3), r}})
	}
	return l
}
