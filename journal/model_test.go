package journal_test

import (
	"fmt"
	"math"
	"regexp"
	"slices"
	"strconv"
	"strings"
	"testing"

	"posthouse/api"
	"posthouse/disk"
	"posthouse/journal"
	"posthouse/record"
)

// The numbers as the documents tell them.
const (
	mostData    = 65536
	mostSegment = 99999999
	mostFile    = 1 << 20
)

// plenty is more room than the tests use, unless it is the room that they are about.
const plenty = 1 << 30

// rec is a record.
func rec(kind uint8, data string) api.Record { return api.Record{Kind: kind, Data: data} }

// encoded is the encodings of records, one after the other.
func encoded(l ...api.Record) string {
	s, e := record.Put(l)
	if e != api.OK {
		panic(fmt.Sprint("no encoding: ", e))
	}
	return s
}

// first is the bytes of a segment that sets a state, and has those records behind it.
func first(state string, l ...api.Record) string { return encoded(rec(0, state)) + encoded(l...) }

// mixed is so many bytes, unlike the ones of other lengths.
func mixed(n int) string {
	b := make([]byte, n)
	for i := range b {
		b[i] = byte(i*7 + i>>8 + n)
	}
	return string(b)
}

// segmentName is the name of a segment, as the chapter words it.
func segmentName(n int) string { return fmt.Sprintf("j.%08d", n) }

// files are bytes by the files' names; all of them are safe.
type files map[string]string

// segments are files with the numbers from that one on, in order.
func segments(from int, l ...string) files {
	f := files{}
	for i, s := range l {
		f[segmentName(from+i)] = s
	}
	return f
}

// and is both, of which the other one's files are taken where both have one.
func (f files) and(other files) files {
	all := files{}
	for name, s := range f {
		all[name] = s
	}
	for name, s := range other {
		all[name] = s
	}
	return all
}

// names are their names, in order.
func (f files) names() []string {
	var l []string
	for name := range f {
		l = append(l, name)
	}
	slices.Sort(l)
	return l
}

// on is a disk with them.
func (f files) on(room int) *disk.Disk {
	d := disk.New(room)
	for _, name := range f.names() {
		e := d.Append(name, f[name])
		if e == api.OK {
			e = d.Sync(name)
		}
		if e != api.OK {
			panic(fmt.Sprint("no such disk: ", name, e))
		}
	}
	return d
}

// every keeps all loose bytes of all files.
func every() []int { return slices.Repeat([]int{math.MaxInt}, 1000) }

// woken is a copy of a disk, which is up, and has kept those loose bytes.
func woken(d *disk.Disk, keep []int) *disk.Disk {
	c := d.Copy()
	c.Crash()
	c.Wake(keep)
	return c
}

// filesOf are a disk's files, also those of one that is down.
func filesOf(d *disk.Disk, keep []int) files {
	c, f := woken(d, keep), files{}
	for _, name := range c.List() {
		f[name], _ = c.Read(name)
	}
	return f
}

// fuseOf tells at which of the next operations the power of a disk fails, as far as it is one of the next hundred.
func fuseOf(d *disk.Disk) int {
	if d.Down() {
		return 0
	}
	c := d.Copy()
	for n := range 100 {
		if c.Append("x", "") == api.ErrDown {
			return n + 1
		}
	}
	return 0
}

// unlike tells in what two disks differ, if they do.
func unlike(a, b *disk.Disk) string {
	if a.Down() != b.Down() || fuseOf(a) != fuseOf(b) {
		return fmt.Sprintf("down %v, fuse %d; not %v, %d", a.Down(), fuseOf(a), b.Down(), fuseOf(b))
	}
	for _, keep := range [][]int{nil, every()} {
		of, want := filesOf(a, keep), filesOf(b, keep)
		if s := of.unlike(want); s != "" {
			return fmt.Sprintf("(with %d files' loose bytes) %s", len(keep), s)
		}
	}
	return ""
}

// unlike tells in what files differ, if they do.
func (f files) unlike(want files) string {
	if !slices.Equal(f.names(), want.names()) {
		return fmt.Sprintf("files %q, not %q", f.names(), want.names())
	}
	for name, s := range f {
		if s != want[name] {
			return fmt.Sprintf("%s is %s, not %s", name, brief(s), brief(want[name]))
		}
	}
	return ""
}

// brief tells a string in a line that is not too long.
func brief(s string) string { return fmt.Sprintf("%d bytes %x", len(s), s[:min(len(s), 60)]) }

// show tells records in a line that is not too long.
func show(l []api.Record) string {
	s := fmt.Sprintf("%d records", len(l))
	for _, r := range l[:min(len(l), 5)] {
		s += fmt.Sprintf(" (%d, %s)", r.Kind, brief(r.Data))
	}
	return s
}

// found is what the chapter's section Terms says of a disk's segments.
type found struct {
	numbers, chain []int
	corrupt        bool
	state          string
	records        []api.Record
	// How many bytes the last one's records have, and what is behind them.
	size int
	rest api.State
}

var segmentForm = regexp.MustCompile(`^j\.[0-9]{8}$`)

// find finds it.
func find(f files) found {
	var is found
	for _, name := range f.names() {
		if n, _ := strconv.Atoi(strings.TrimLeft(strings.TrimPrefix(name, "j."), "0")); segmentForm.MatchString(name) && n > 0 {
			is.numbers = append(is.numbers, n)
		}
	}
	start := 0
	for _, n := range is.numbers {
		l, _, _ := record.Scan(f[segmentName(n)])
		if len(l) > 0 && l[0].Kind == 0 {
			start = n
		}
	}
	for n := start; start > 0 && slices.Contains(is.numbers, n); n++ {
		is.chain = append(is.chain, n)
	}
	if len(is.numbers) == 0 {
		return is
	}
	if len(is.chain) == 0 || slices.Max(is.numbers) > slices.Max(is.chain) {
		is.corrupt = true
		return is
	}
	var all []api.Record
	for _, n := range is.chain {
		var l []api.Record
		l, is.size, is.rest = record.Scan(f[segmentName(n)])
		all = append(all, l...)
		if is.rest == api.StateBad || is.rest == api.StateTorn && n != slices.Max(is.chain) {
			is.corrupt = true
		}
	}
	for i, r := range all {
		if i == 0 {
			is.state = r.Data
		} else if r.Kind == 0 {
			is.corrupt = true
		} else {
			is.records = append(is.records, r)
		}
	}
	return is
}

// op is an operation on a disk, and what it is.
type op struct {
	what string
	on   func(d *disk.Disk) api.Errno
}

func appends(name, b string) op {
	return op{"append " + name, func(d *disk.Disk) api.Errno { return d.Append(name, b) }}
}

func syncs(name string) op {
	return op{"sync " + name, func(d *disk.Disk) api.Errno { return d.Sync(name) }}
}

func cuts(name string, n int) op {
	return op{"cut " + name, func(d *disk.Disk) api.Errno { return d.Cut(name, n) }}
}

func renames(from, to string) op {
	return op{"rename " + from + " " + to, func(d *disk.Disk) api.Errno { return d.Rename(from, to) }}
}

func removes(name string) op {
	return op{"remove " + name, func(d *disk.Disk) api.Errno { return d.Remove(name) }}
}

// whatOf tells operations in words.
func whatOf(l []op) []string {
	var words []string
	for _, o := range l {
		words = append(words, o.what)
	}
	return words
}

// model is a journal made from the chapter's words. What it has on its disk it finds there, at each call anew.
type model struct {
	d       *disk.Disk
	limit   int
	state   string
	records []api.Record
	broken  bool
}

// run does operations, up to the first error.
func (m *model) run(l []op) api.Errno {
	for _, o := range l {
		if e := o.on(m.d); e != api.OK {
			m.broken = m.broken || e == api.ErrDown
			return e
		}
	}
	return api.OK
}

// openingOps are the operations of Open, on a disk with those files.
func openingOps(f files) []op {
	var l []op
	if _, is := f["j.new"]; is {
		l = append(l, removes("j.new"))
	}
	is := find(f)
	if len(is.numbers) == 0 {
		return append(l, appends("j.new", first("")), syncs("j.new"), renames("j.new", "j.00000001"))
	}
	for _, n := range is.numbers {
		if n < is.chain[0] {
			l = append(l, removes(segmentName(n)))
		}
	}
	last := segmentName(slices.Max(is.chain))
	if is.rest == api.StateTorn {
		l = append(l, cuts(last, is.size))
	}
	return append(l, syncs(last))
}

func openModel(d *disk.Disk, limit int) (*model, api.Errno) {
	switch {
	case d == nil:
		return nil, api.ErrNil
	case limit < 1:
		return nil, api.ErrArg
	case d.Down():
		return nil, api.ErrDown
	}
	f := filesOf(d, every())
	is := find(f)
	if is.corrupt {
		return nil, api.ErrBad
	}
	m := &model{d: d, limit: limit, state: is.state, records: is.records}
	if e := m.run(openingOps(f)); e != api.OK {
		return nil, e
	}
	return m, api.OK
}

// last is the number of the last segment, and what is in it.
func (m *model) last() (int, string) {
	f := filesOf(m.d, every())
	n := slices.Max(find(f).numbers)
	return n, f[segmentName(n)]
}

// appendOps are the operations of Append; is tells whether it can be done.
func (m *model) appendOps(r api.Record) (l []op, is bool) {
	n, s := m.last()
	if len(s) > 0 && len(s)+len(encoded(r)) > m.limit {
		if n == mostSegment {
			return nil, false
		}
		return []op{syncs(segmentName(n)), appends(segmentName(n+1), encoded(r))}, true
	}
	return []op{appends(segmentName(n), encoded(r))}, true
}

func (m *model) append(r api.Record) api.Errno {
	switch {
	case m == nil:
		return api.ErrNil
	case r.Kind == 0:
		return api.ErrArg
	case m.broken:
		return api.ErrDown
	case len(r.Data) > mostData:
		return api.ErrLong
	}
	l, is := m.appendOps(r)
	if !is {
		return api.ErrFull
	}
	if e := m.run(l); e != api.OK {
		return e
	}
	m.records = append(slices.Clip(m.records), r)
	return api.OK
}

func (m *model) sync() api.Errno {
	switch {
	case m == nil:
		return api.ErrNil
	case m.broken:
		return api.ErrDown
	}
	n, _ := m.last()
	return m.run([]op{syncs(segmentName(n))})
}

// checkpointOps are the operations of Checkpoint that are done before the journal has the state.
func (m *model) checkpointOps(state string) []op {
	var l []op
	if _, is := filesOf(m.d, every())["j.new"]; is {
		l = append(l, removes("j.new"))
	}
	n, _ := m.last()
	return append(l, appends("j.new", first(state)), syncs("j.new"), renames("j.new", segmentName(n+1)))
}

// removalOps are the operations that are done then.
func (m *model) removalOps() []op {
	var l []op
	numbers := find(filesOf(m.d, every())).numbers
	for _, n := range numbers {
		if n < slices.Max(numbers) {
			l = append(l, removes(segmentName(n)))
		}
	}
	return l
}

func (m *model) checkpoint(state string) api.Errno {
	switch {
	case m == nil:
		return api.ErrNil
	case m.broken:
		return api.ErrDown
	case len(state) > mostData:
		return api.ErrLong
	}
	if n, _ := m.last(); n == mostSegment {
		return api.ErrFull
	}
	if e := m.run(m.checkpointOps(state)); e != api.OK {
		return e
	}
	m.state, m.records = state, nil
	return m.run(m.removalOps())
}

// pair is a journal and its disk, beside a model with a disk of its own.
type pair struct {
	d, md *disk.Disk
	j     *journal.Journal
	m     *model
	// What was done, to be told when something is wrong.
	did []string
}

// newPair is one on that disk, which is not opened yet.
func newPair(d *disk.Disk) *pair { return &pair{d: d, md: d.Copy()} }

// opened is one that is opened, on a disk with those files.
func opened(t *testing.T, f files, room, limit int) *pair {
	t.Helper()
	p := newPair(f.on(room))
	p.do(t, opens(limit))
	if p.j == nil {
		t.Fatalf("a journal is not opened that should be: %q", f.names())
	}
	return p
}

// call is a call of a pair, by what it is; it tells what the journal and the model answer.
type call struct {
	what string
	on   func(p *pair) (e, want api.Errno)
}

func adds(kind uint8, data string) call {
	return call{fmt.Sprintf("Append(%d, %s)", kind, brief(data)), func(p *pair) (api.Errno, api.Errno) {
		return p.j.Append(rec(kind, data)), p.m.append(rec(kind, data))
	}}
}

func saves() call {
	return call{"Sync", func(p *pair) (api.Errno, api.Errno) { return p.j.Sync(), p.m.sync() }}
}

func sets(state string) call {
	return call{fmt.Sprintf("Checkpoint(%s)", brief(state)), func(p *pair) (api.Errno, api.Errno) {
		return p.j.Checkpoint(state), p.m.checkpoint(state)
	}}
}

func opens(limit int) call {
	return call{fmt.Sprintf("Open(%d)", limit), func(p *pair) (e, want api.Errno) {
		p.j, e = journal.Open(p.d, limit)
		p.m, want = openModel(p.md, limit)
		return e, want
	}}
}

// silent is a call of both disks, which answers nothing.
func silent(what string, on func(d *disk.Disk)) call {
	return call{what, func(p *pair) (api.Errno, api.Errno) {
		on(p.d)
		on(p.md)
		return api.OK, api.OK
	}}
}

func fuses(n int) call { return silent(fmt.Sprintf("Fuse(%d)", n), func(d *disk.Disk) { d.Fuse(n) }) }

func crashes() call { return silent("Crash", (*disk.Disk).Crash) }

// wakes wakes the disk. Of a journal that was not told that it was down nothing is promised then: it is let go.
func wakes(keep ...int) call {
	return call{fmt.Sprintf("Wake(%.80s)", fmt.Sprint(keep)), func(p *pair) (api.Errno, api.Errno) {
		if p.m != nil && !p.m.broken && p.md.Down() {
			p.j, p.m = nil, nil
		}
		p.d.Wake(keep)
		p.md.Wake(keep)
		return api.OK, api.OK
	}}
}

// step makes a call, and asks whether it answers what the model answers.
func (p *pair) step(t *testing.T, c call) api.Errno {
	t.Helper()
	p.did = append(p.did, c.what)
	e, want := c.on(p)
	if e != want {
		t.Fatalf("%s: %d, not %d", strings.Join(p.did, " "), e, want)
	}
	return want
}

// do makes calls, and asks after each whether all is as the model says.
func (p *pair) do(t *testing.T, l ...call) {
	t.Helper()
	for _, c := range l {
		p.step(t, c)
		p.check(t)
	}
}

// want makes a call, and asks whether it answers that error, by the model, too.
func (p *pair) want(t *testing.T, c call, want api.Errno) {
	t.Helper()
	if e := p.step(t, c); e != want {
		t.Fatalf("%s: the model answers %d, not %d", strings.Join(p.did, " "), e, want)
	}
	p.check(t)
}

// check asks whether the journal has what the model has, and the disks are the same.
func (p *pair) check(t *testing.T) {
	t.Helper()
	did := strings.Join(p.did, " ")
	if p.m == nil {
		if p.j != nil {
			t.Fatalf("%s: a journal that should be none", did)
		}
		checkHas(t, did, p.j, "", nil, true)
	} else {
		if p.j == nil {
			t.Fatalf("%s: no journal", did)
		}
		checkHas(t, did, p.j, p.m.state, p.m.records, p.m.broken)
	}
	if s := unlike(p.d, p.md); s != "" {
		t.Fatalf("%s: the disk: %s", did, s)
	}
}

// checkHas asks whether a journal has that state and those records.
func checkHas(t *testing.T, did string, j *journal.Journal, state string, l []api.Record, broken bool) {
	t.Helper()
	if s := j.State(); s != state {
		t.Fatalf("%s: State is %s, not %s", did, brief(s), brief(state))
	}
	if got := j.Records(); !slices.Equal(got, l) {
		t.Fatalf("%s: Records are %s, not %s", did, show(got), show(l))
	}
	if is := j.Broken(); is != broken {
		t.Fatalf("%s: Broken is %v, not %v", did, is, broken)
	}
}

// dice yield the same numbers in each run.
type dice uint64

func (d *dice) below(n int) int {
	*d += 0x9e3779b97f4a7c15
	x := uint64(*d)
	x = (x ^ x>>30) * 0xbf58476d1ce4e5b9
	x = (x ^ x>>27) * 0x94d049bb133111eb
	return int((x ^ x>>31) % uint64(n))
}
