package journal_test

import (
	"fmt"
	"math"
	"slices"
	"strings"
	"testing"
	"unsafe"

	"posthouse/api"
	"posthouse/disk"
	"posthouse/journal"
)

// The records of the chapter's examples, of 15 bytes each.
var (
	a = rec(1, "ab")
	b = rec(2, "cd")
)

// almost are names that are nearly a segment's, or that of the file that becomes one.
func almost() []string {
	return []string{
		"j.00000000", "j.0000001", "j.000000001", "j.100000000", "j.123456789", "j.0000000a", "j.0000000A", "j.+0000001", "j.-0000001", "j.0_000001", "j.0x000001",
		"j.1e000001", "j.0000000.", "j.0000001.", "j..00000001", "j.j.00000001", "J.00000001", "k.00000001", "j-00000001", "j00000001", "00000001", "00000009", "j.", "j", "xj.00000001",
		"j.00000001x", "j.00000001.", "j.00000001~", "j.new1", "j.ne", "j.New", "j.news", "J.new", "jj.new", "new", "j.new.", "j.9999999", "j.999999999",
	}
}

func TestP12_1_Examples(t *testing.T) {
	p := newPair(disk.New(1000))
	p.want(t, opens(30), api.OK)
	p.want(t, adds(1, "ab"), api.OK)
	p.want(t, adds(2, "cd"), api.OK)
	if l := p.d.List(); !slices.Equal(l, []string{"j.00000001", "j.00000002"}) {
		t.Error(l)
	}
	p.want(t, sets("x"), api.OK)
	checkHas(t, "Checkpoint(x)", p.j, "x", nil, false)
	if l := p.d.List(); !slices.Equal(l, []string{"j.00000003"}) {
		t.Error(l)
	}
	p.want(t, adds(1, "ab"), api.OK)
	p.do(t, crashes())
	p.want(t, adds(1, "ab"), api.ErrDown)
	p.do(t, wakes(3))
	p.want(t, opens(30), api.OK)
	checkHas(t, "Open", p.j, "x", nil, false)
	p.want(t, adds(0, "ab"), api.ErrArg)
	p.want(t, opens(0), api.ErrArg)
}

// The example's crash, without a call that tells the journal of it.
func TestP12_1_ExampleOfACrash(t *testing.T) {
	p := opened(t, segments(3, first("x")), 1000, 30)
	p.do(t, adds(1, "ab"), crashes(), wakes(3), opens(30))
	checkHas(t, "Open", p.j, "x", nil, false)
	checkFiles(t, p.d, segments(3, first("x")))
}

// checkFiles asks whether a disk has those files, all bytes of which are safe.
func checkFiles(t *testing.T, d *disk.Disk, f files) {
	t.Helper()
	for _, keep := range [][]int{nil, every()} {
		if s := filesOf(d, keep).unlike(f); s != "" {
			t.Errorf("(with %d files' loose bytes) %s", len(keep), s)
		}
	}
}

func TestP12_1_NewDisk(t *testing.T) {
	for _, limit := range []int{1, 12, 13, 14, 30, 65536, math.MaxInt32, math.MaxInt} {
		d := disk.New(13)
		j, e := journal.Open(d, limit)
		if e != api.OK {
			t.Fatal(limit, e)
		}
		checkHas(t, "Open", j, "", nil, false)
		checkFiles(t, d, files{"j.00000001": "\x00\x00\x00\x00\x00\x35\x76\x72\x45\x00\x00\x00\x00"})
		for room := range 13 {
			newPair(disk.New(room)).want(t, opens(limit), api.ErrFull)
		}
	}
}

func TestP12_1_NoDisk(t *testing.T) {
	down := disk.New(100)
	down.Crash()
	corrupt := segments(5, "").on(plenty)
	corruptAndDown := corrupt.Copy()
	corruptAndDown.Crash()
	for _, c := range []struct {
		d      *disk.Disk
		limits []int
		want   api.Errno
	}{
		{nil, []int{math.MinInt, -1, 0, 1, 9, math.MaxInt}, api.ErrNil},
		{&disk.Disk{}, []int{math.MinInt, -1, 0, 1, 9, math.MaxInt}, api.ErrNil},
		{disk.New(100), []int{math.MinInt, -9, -1, 0}, api.ErrArg},
		{down, []int{math.MinInt, -9, -1, 0}, api.ErrArg},
		{corrupt, []int{math.MinInt, -9, -1, 0}, api.ErrArg},
		{corruptAndDown, []int{math.MinInt, -9, -1, 0}, api.ErrArg},
		{down, []int{1, 9, math.MaxInt}, api.ErrDown},
		{corruptAndDown, []int{1, 9, math.MaxInt}, api.ErrDown},
		{corrupt, []int{1, 9, math.MaxInt}, api.ErrBad},
	} {
		was := c.d.Copy()
		for _, limit := range c.limits {
			if j, e := journal.Open(c.d, limit); j != nil || e != c.want {
				t.Errorf("Open(%d): %v, %d, not %d", limit, j, e, c.want)
			}
		}
		if was != nil {
			if s := unlike(c.d, was); s != "" {
				t.Errorf("after %d: %s", c.want, s)
			}
		}
	}
}

// Files that are nearly segments are none, whatever is in them, and stay.
func TestP12_1_AlmostSegments(t *testing.T) {
	others := files{}
	for i, name := range almost() {
		others[name] = []string{first("not this one", a), "", "\xff", strings.Repeat("\x00", 40), encoded(a)[:14]}[i%5]
	}
	for name, s := range others {
		p := opened(t, files{name: s}, plenty, 30)
		checkFiles(t, p.d, files{name: s, "j.00000001": first("")})
	}
	for _, f := range []files{{}, segments(1, first("x", a)), segments(3, first("x", a), encoded(b), ""), segments(2, "old", first("x", a))} {
		p := opened(t, f.and(others), plenty, 30)
		p.do(t, adds(3, "more"), sets("y"), adds(1, "ab"), saves(), opens(9), sets("z"))
		checkFiles(t, p.d, others.and(files{p.segment(t): first("z")}))
	}
}

// segment is the name of the only segment that is there.
func (p *pair) segment(t *testing.T) string {
	t.Helper()
	numbers := find(filesOf(p.d, nil)).numbers
	if len(numbers) != 1 {
		t.Fatalf("segments %d", numbers)
	}
	return segmentName(numbers[0])
}

// starts are the numbers of segments at which there may be something amiss.
func starts() []int {
	return []int{1, 2, 7, 8, 9, 10, 97, 98, 99, 100, 998, 999999, 1000000, 9999998, 9999999, 10000000, 12345678, mostSegment - 3}
}

func TestP12_1_Segments(t *testing.T) {
	long := rec(255, mixed(300))
	for _, n := range starts() {
		for _, c := range []struct {
			segments []string
			state    string
			records  []api.Record
		}{
			{[]string{first("")}, "", nil},
			{[]string{first("x")}, "x", nil},
			{[]string{first("x", a)}, "x", []api.Record{a}},
			{[]string{first(mixed(300), a, b, long)}, mixed(300), []api.Record{a, b, long}},
			{[]string{first(""), ""}, "", nil},
			{[]string{first("x", a), encoded(b)}, "x", []api.Record{a, b}},
			{[]string{first("x"), encoded(b, b), encoded(a)}, "x", []api.Record{b, b, a}},
			{[]string{first("x"), encoded(b), encoded(a), encoded(long)}, "x", []api.Record{b, a, long}},
			{[]string{first("x"), encoded(b), encoded(a), ""}, "x", []api.Record{b, a}},
			{[]string{first("old", a), first("x", b)}, "x", []api.Record{b}},
			{[]string{first("old", a), encoded(a), first("x", b)}, "x", []api.Record{b}},
			{[]string{first("old", a), encoded(a), first("x"), encoded(b)}, "x", []api.Record{b}},
			{[]string{"", "\xff", encoded(a)[:3], first("x")}, "x", nil},
		} {
			f := segments(n, c.segments...)
			p := opened(t, f, plenty, 30)
			checkHas(t, fmt.Sprintf("segment %d on, %q", n, c.segments), p.j, c.state, c.records, false)
			for name := range f {
				if n := find(f).chain[0]; name < segmentName(n) {
					delete(f, name)
				}
			}
			checkFiles(t, p.d, f)
		}
	}
}

func TestP12_1_EachKind(t *testing.T) {
	var all []api.Record
	for kind := 1; kind < 256; kind++ {
		all = append(all, rec(uint8(kind), strings.Repeat("k", kind%3)))
	}
	p := opened(t, segments(1, first("x", all...)), plenty, 30)
	checkHas(t, "Open", p.j, "x", all, false)
	p = opened(t, segments(1, first("x"), encoded(all[100:]...), encoded(all[:100]...)), plenty, 30)
	checkHas(t, "Open", p.j, "x", slices.Concat(all[100:], all[:100]), false)
}

// What is there of the last segment may end at each place; of the first one the state must be there.
func TestP12_1_TornAtEachPlace(t *testing.T) {
	long := rec(9, mixed(70))
	whole := encoded(a, long, rec(3, ""), b)
	for n := range len(whole) + 1 {
		for _, f := range []files{
			segments(4, first("x")+whole[:n]),
			segments(4, first("x"), whole[:n]),
			segments(4, first("x", a, b), encoded(b), whole[:n]),
			segments(4, "old", first("x"), whole[:n]),
		} {
			size := find(files{"j.00000001": first("") + whole[:n]}).size - 13
			p := opened(t, f, plenty, 30)
			want := find(f)
			last := segmentName(slices.Max(want.chain))
			mended := filesOf(p.d, nil)
			if !strings.HasSuffix(mended[last], whole[:size]) || len(mended[last]) != want.size {
				t.Fatalf("%d bytes of it: %s is %s", n, last, brief(mended[last]))
			}
			p.do(t, adds(7, "next"), opens(30), sets("y"), opens(30))
		}
		state := first(mixed(40))
		torn := state[:min(n, len(state)-1)]
		newPair(segments(4, torn).on(plenty)).want(t, opens(30), api.ErrBad)
		p := opened(t, segments(4, first("x"), torn), plenty, 30)
		checkHas(t, "Open", p.j, "x", nil, false)
		checkFiles(t, p.d, segments(4, first("x"), ""))
	}
}

// corrupt are disks with each kind of corrupt segments that the chapter lists.
func corrupt() map[string]files {
	bad := strings.Repeat("\x00", 9)
	flipped := "\x80" + encoded(b)[1:]
	return map[string]files{
		"no start: no byte":                            segments(1, ""),
		"no start: no bytes":                           segments(1, "", ""),
		"no start: a record":                           segments(1, encoded(a)),
		"no start: records":                            segments(1, encoded(a, b), encoded(b)),
		"no start: a state behind a record":            segments(1, encoded(a)+first("x")),
		"no start: a torn state":                       segments(1, first("x")[:13]),
		"no start: bad":                                segments(1, bad),
		"no start: a state behind bad":                 segments(1, bad+first("x")),
		"no start: the greatest segment":               segments(mostSegment, encoded(a)),
		"no start: a state that is flipped":            segments(1, "\x01"+first("x")[1:]),
		"above: a gap":                                 segments(1, first("x")).and(segments(3, encoded(a))),
		"above: a gap and no byte":                     segments(1, first("x")).and(segments(3, "")),
		"above: a gap and bad":                         segments(1, first("x")).and(segments(3, bad)),
		"above: the greatest segment":                  segments(1, first("x"), encoded(b)).and(segments(mostSegment, encoded(a))),
		"above: a gap of many":                         segments(9, first("x"), encoded(b)).and(segments(99, encoded(a), encoded(b))),
		"above: a gap behind old ones":                 segments(1, first("w"), first("x"), encoded(a)).and(segments(5, encoded(b))),
		"not whole: the first is torn":                 segments(1, first("x", a)[:20], encoded(b)),
		"not whole: the first is torn, one of no byte": segments(1, first("x", a)[:28], ""),
		"not whole: the first is bad":                  segments(1, first("x")+bad, encoded(b)),
		"not whole: the second is torn":                segments(1, first("x"), encoded(a)[:14], encoded(b)),
		"not whole: the second is torn in its first":   segments(1, first("x"), encoded(a)[:1], encoded(b)),
		"not whole: the second is bad":                 segments(1, first("x"), encoded(a)+flipped, encoded(b)),
		"bad: the only one":                            segments(1, first("x")+bad),
		"bad: the only one, behind records":            segments(1, first("x", a, b)+flipped),
		"bad: the only one, a record behind it":        segments(1, first("x", a)+flipped+encoded(b)),
		"bad: the last one":                            segments(1, first("x"), bad),
		"bad: the last one, behind records":            segments(1, first("x"), encoded(a), encoded(a)+flipped),
		"bad: the last one, old ones below":            segments(1, first("w"), first("x"), flipped),
		"bad: a state that was the chain's first":      segments(1, first("w", a), "\x01"+first("x")[1:]),
		"a second state: in the first segment":         segments(1, first("x")+first("y")),
		"a second state: behind a record":              segments(1, first("x", a)+first("y", b)),
		"a second state: the same":                     segments(1, first("")+first("")),
		"a second state: in the first of two":          segments(1, first("x", a)+first("y"), encoded(b)),
		"a second state: in the second segment":        segments(1, first("x"), encoded(a)+first("y")),
		"a second state: in the last of three":         segments(1, first("x"), encoded(a), encoded(b, b)+first("y")),
		"a second state: ahead of a torn one":          segments(1, first("x", a)+first("y")+encoded(a)[:10]),
	}
}

// Nothing is done then: neither a fuse nor what should be removed is touched.
func TestP12_1_Corrupt(t *testing.T) {
	for what, f := range corrupt() {
		for _, more := range []files{{}, {"j.new": "x"}, {"other": "x", "j.0000001": "y"}} {
			for _, fuse := range []int{0, 1, 2} {
				d := f.and(more).on(plenty)
				d.Append("z", "loose")
				d.Fuse(fuse)
				was := d.Copy()
				if j, e := journal.Open(d, 30); j != nil || e != api.ErrBad {
					t.Errorf("%s: %v, %d", what, j, e)
				}
				if s := unlike(d, was); s != "" {
					t.Errorf("%s: %s", what, s)
				}
				newPair(d).want(t, opens(1), api.ErrBad)
			}
		}
	}
}

// Bits that are inverted in the chain are found, wherever.
func TestP12_1_BitsInverted(t *testing.T) {
	for _, l := range [][]string{{first("x", a, b)}, {first("x", a), encoded(b, a)}, {first("w"), first("x", a), encoded(b), encoded(rec(9, "123"))}} {
		f := segments(8, l...)
		for _, n := range find(f).chain {
			s := f[segmentName(n)]
			for bit := range 8 * len(s) {
				flipped := []byte(s)
				flipped[bit/8] ^= 1 << (bit % 8)
				// The fourth byte from there on still ends within 32 bits of the whole byte's start.
				if at := bit/8 + 3; at < len(s) {
					flipped[at] ^= byte(bit)
				}
				p := newPair(f.and(files{segmentName(n): string(flipped)}).on(plenty))
				p.want(t, opens(30), api.ErrBad)
			}
		}
	}
}

// pieces are what may be in a segment: "absent" is none.
func pieces() []string {
	s := first("x")
	return []string{
		"absent", "", s, s + encoded(a), encoded(a), encoded(a, b),
		s[:5], s[:9], s[:13], s + encoded(a)[:8], s + encoded(a)[:14], encoded(a)[:3], encoded(a, b)[:22],
		strings.Repeat("\x00", 9), s + "\xff" + encoded(a)[1:], encoded(a) + strings.Repeat("\x01", 11),
		encoded(a) + s, s + s, s + encoded(a)[:14] + "\x00",
	}
}

// rows calls do with all rows of so many pieces.
func rows(n int, do func(l []string)) {
	var next func(l []string)
	next = func(l []string) {
		if len(l) == n {
			do(l)
			return
		}
		for _, s := range pieces() {
			next(append(slices.Clip(l), s))
		}
	}
	next(nil)
}

// laid are a row's segments.
func laid(l []string) files {
	f := segments(9, l...)
	for name, s := range f {
		if s == "absent" {
			delete(f, name)
		}
	}
	return f
}

// Any three segments, and what may be beside them, with the power failing at each operation in turn.
func TestP12_1_AnySegments(t *testing.T) {
	rows(3, func(l []string) {
		for _, more := range []files{{}, {"j.new": l[0], "other": "x"}} {
			f := laid(l).and(more)
			for fuse := range 8 {
				p := newPair(f.on(plenty))
				p.do(t, fuses(fuse), opens(30))
				if fuse > 0 && !p.d.Down() {
					break
				}
				if fuse == 0 && p.j == nil {
					break
				}
				if fuse == 0 {
					p.do(t, adds(9, "next"), opens(40))
				}
			}
		}
	})
}

func TestP12_1_AnyFourSegments(t *testing.T) {
	rows(4, func(l []string) {
		if slices.Contains(l[1:], "absent") {
			return
		}
		f := laid(l)
		want := find(f)
		j, e := journal.Open(f.on(plenty), 30)
		if want.corrupt {
			if j != nil || e != api.ErrBad {
				t.Fatalf("%q: %d", l, e)
			}
			return
		}
		if e != api.OK {
			t.Fatalf("%q: %d", l, e)
		}
		checkHas(t, fmt.Sprintf("%q", l), j, want.state, want.records, false)
	})
}

// checkOrder asks whether the operations that calls do on a disk are those, in that order: the power fails at each of them in turn.
func checkOrder(t *testing.T, ready func() *pair, c call, l ...op) {
	t.Helper()
	for n := 1; n <= len(l)+1; n++ {
		p := ready()
		d := p.d.Copy()
		p.do(t, fuses(n))
		d.Fuse(n)
		e := api.OK
		for _, o := range l {
			if e == api.OK {
				e = o.on(d)
			}
		}
		want := api.ErrDown
		if n > len(l) {
			want = api.OK
		}
		if e != want {
			t.Fatalf("the operations %q, a fuse of %d: %d", whatOf(l), n, e)
		}
		p.want(t, c, want)
		if s := unlike(p.d, d); s != "" {
			t.Errorf("%s, a fuse of %d, the operations %q: %s", c.what, n, whatOf(l), s)
		}
	}
}

func TestP12_1_OrderOfOperations(t *testing.T) {
	ready := func(f files) func() *pair { return func() *pair { return newPair(f.on(plenty)) } }
	checkOrder(t, ready(files{}), opens(30), appends("j.new", first("")), syncs("j.new"), renames("j.new", "j.00000001"))
	checkOrder(t, ready(files{"j.new": "x"}), opens(30), removes("j.new"), appends("j.new", first("")), syncs("j.new"), renames("j.new", "j.00000001"))
	checkOrder(t, ready(segments(1, first("x"))), opens(30), syncs("j.00000001"))
	checkOrder(t, ready(segments(1, first("x"), encoded(a))), opens(30), syncs("j.00000002"))
	checkOrder(t, ready(segments(1, first("x"), encoded(a)[:9])), opens(30), cuts("j.00000002", 0), syncs("j.00000002"))
	checkOrder(t, ready(segments(8, "old", first("w"), encoded(a), first("x"), encoded(a)+encoded(b)[:9]).and(segments(3, "gone", "")).and(files{"j.new": first("y")})), opens(30),
		removes("j.new"), removes("j.00000003"), removes("j.00000004"), removes("j.00000008"), removes("j.00000009"), removes("j.00000010"), cuts("j.00000012", 15), syncs("j.00000012"))
	// Loose bytes of the last segment are safe afterwards.
	loose := func() *pair {
		d := segments(5, first("w"), first("x", a)).on(plenty)
		d.Append("j.00000006", encoded(b)+encoded(a)[:3])
		return newPair(d)
	}
	checkOrder(t, loose, opens(30), removes("j.00000005"), cuts("j.00000006", 44), syncs("j.00000006"))
	p := loose()
	p.do(t, opens(30))
	checkFiles(t, p.d, segments(6, first("x", a, b)))
}

func TestP12_1_FullDisk(t *testing.T) {
	for room := range 40 {
		p := newPair(disk.New(room))
		p.do(t, opens(30))
		// What is in the way is removed first, and gives room.
		p = newPair(files{"j.new": mixed(room)}.on(room))
		p.do(t, opens(30))
		p = newPair(files{"j.new": "x", "other": mixed(20)}.on(21 + room))
		p.do(t, opens(30))
	}
	// A disk on which nothing has room is enough for segments that are there.
	f := segments(2, "old", first("x", a), encoded(b)[:5])
	p := newPair(f.on(3 + 29 + 5))
	p.want(t, opens(30), api.OK)
	checkHas(t, "Open", p.j, "x", []api.Record{a}, false)
}

func TestP12_1_SeveralJournals(t *testing.T) {
	one, other := opened(t, files{}, 200, 30), opened(t, segments(1, first("x", b)), 300, 40)
	one.do(t, adds(1, "ab"), sets("one"))
	other.do(t, adds(2, "cd"), crashes(), saves())
	one.do(t, adds(3, "ef"), saves())
	checkHas(t, "the other", other.j, "x", []api.Record{b, b}, true)
	checkHas(t, "the one", one.j, "one", []api.Record{rec(3, "ef")}, false)
}

func TestP12_2_NoJournal(t *testing.T) {
	for _, j := range []*journal.Journal{nil, {}, new(journal.Journal)} {
		for range 2 {
			checkHas(t, "no journal", j, "", nil, true)
			for _, r := range []api.Record{a, {}, rec(0, mixed(mostData+1)), rec(1, mixed(mostData+1))} {
				if e := j.Append(r); e != api.ErrNil {
					t.Error(e)
				}
			}
			for _, s := range []string{"", "x", mixed(mostData + 1)} {
				if e := j.Checkpoint(s); e != api.ErrNil {
					t.Error(e)
				}
			}
			if e := j.Sync(); e != api.ErrNil {
				t.Error(e)
			}
		}
	}
}

func TestP12_2_InOrder(t *testing.T) {
	p := opened(t, files{}, plenty, 60)
	var l []api.Record
	for i := range 200 {
		l = append(l, rec(uint8(i%255+1), mixed(i%23)))
		p.want(t, adds(l[i].Kind, l[i].Data), api.OK)
		checkHas(t, "Append", p.j, "", l, false)
	}
	p.want(t, sets("x"), api.OK)
	checkHas(t, "Checkpoint", p.j, "x", nil, false)
	p.want(t, sets(""), api.OK)
	checkHas(t, "Checkpoint", p.j, "", nil, false)
}

// A journal learns that its disk is down from what a call of its own is answered.
func TestP12_2_Broken(t *testing.T) {
	tooLong := mixed(mostData + 1)
	for _, c := range []call{adds(1, "ab"), saves(), sets("y"), adds(1, mixed(100))} {
		p := opened(t, segments(1, first("x", a), encoded(b)), plenty, 30)
		p.do(t, crashes())
		p.want(t, adds(0, "ab"), api.ErrArg)
		p.want(t, adds(1, tooLong), api.ErrLong)
		p.want(t, sets(tooLong), api.ErrLong)
		checkHas(t, "no operation", p.j, "x", []api.Record{a, b}, false)
		p.want(t, c, api.ErrDown)
		checkHas(t, c.what, p.j, "x", []api.Record{a, b}, true)
		p.checkBroken(t)
		p.do(t, wakes(every()...))
		p.checkBroken(t)
		checkHas(t, "awake", p.j, "x", []api.Record{a, b}, true)
		p.want(t, opens(30), api.OK)
		checkHas(t, "opened again", p.j, "x", []api.Record{a, b}, false)
	}
}

// Of a journal whose disk crashed and woke unnoticed nothing is promised but that its calls return.
func TestP12_2_WokenUnnoticed(t *testing.T) {
	for _, limit := range []int{1, 30, 1000} {
		for _, keep := range [][]int{nil, {0, 0, 3}, every()} {
			d := segments(mostSegment-3, first("x", a)).on(plenty)
			j, _ := journal.Open(d, limit)
			for range 6 {
				j.Append(b)
				d.Crash()
				d.Wake(keep)
				j.Sync()
				j.Append(a)
				d.Crash()
				d.Wake(keep)
				j.Checkpoint("y")
				j.State()
				j.Records()
				j.Broken()
			}
		}
	}
}

// checkBroken asks whether all calls of a broken journal answer what they are to answer.
func (p *pair) checkBroken(t *testing.T) {
	t.Helper()
	tooLong := mixed(mostData + 1)
	p.want(t, adds(1, "ab"), api.ErrDown)
	p.want(t, adds(0, "ab"), api.ErrArg)
	p.want(t, adds(0, tooLong), api.ErrArg)
	p.want(t, adds(255, tooLong), api.ErrDown)
	p.want(t, saves(), api.ErrDown)
	p.want(t, sets("y"), api.ErrDown)
	p.want(t, sets(tooLong), api.ErrDown)
	if !p.j.Broken() {
		t.Error("it is not broken")
	}
}

// sharesMemory tells whether some byte of one is, in memory, one of the other.
func sharesMemory(one, other string) bool {
	if one == "" || other == "" {
		return false
	}
	a, b := uintptr(unsafe.Pointer(unsafe.StringData(one))), uintptr(unsafe.Pointer(unsafe.StringData(other)))
	return a < b+uintptr(len(other)) && b < a+uintptr(len(one))
}

func TestP12_2_NewMemory(t *testing.T) {
	p := opened(t, segments(1, first("a state of some bytes", a)), plenty, 1000)
	p.do(t, adds(2, "some more bytes"))
	want := []api.Record{a, rec(2, "some more bytes")}
	if sharesMemory(p.j.State(), p.j.State()) {
		t.Error("a state that is asked for twice is no new memory")
	}
	one, other := p.j.Records(), p.j.Records()
	for i := range one {
		if sharesMemory(one[i].Data, other[i].Data) {
			t.Error("what is asked for twice is no new memory")
		}
	}
	whole := one[:cap(one)]
	for i := range whole {
		whole[i] = rec(77, "another one")
	}
	_ = append(other, rec(78, "one more"))
	p.check(t)
	p.do(t, adds(3, "the next"))
	checkHas(t, "Append", p.j, "a state of some bytes", append(want, rec(3, "the next")), false)
	if !slices.Equal(other, want) {
		t.Errorf("what was asked for is now %s", show(other))
	}
}

func TestP12_2_ArgumentsAreNotKept(t *testing.T) {
	memory := []byte("a state, and data")
	state, data := unsafe.String(&memory[0], 7), unsafe.String(&memory[9], 8)
	p := opened(t, files{}, plenty, 30)
	if e := p.j.Checkpoint(state); e != api.OK {
		t.Fatal(e)
	}
	if e := p.j.Append(rec(5, data)); e != api.OK {
		t.Fatal(e)
	}
	clear(memory)
	checkHas(t, "cleared", p.j, "a state", []api.Record{rec(5, "and data")}, false)
	checkFiles(t, woken(p.d, every()), segments(2, first("a state"), encoded(rec(5, "and data"))))
}

func TestP12_3_EachKind(t *testing.T) {
	for _, limit := range []int{1, 100, math.MaxInt} {
		p := opened(t, files{}, plenty, limit)
		for kind := range 256 {
			want := api.OK
			if kind == 0 {
				want = api.ErrArg
			}
			p.want(t, adds(uint8(kind), "k"), want)
		}
		if l := p.j.Records(); len(l) != 255 || l[0].Kind != 1 || l[254].Kind != 255 {
			t.Error(show(l))
		}
	}
}

// A record goes to the last segment if that meets the limit just, and to the next one if the limit is a byte less.
func TestP12_3_Limit(t *testing.T) {
	for _, n := range []int{0, 1, 2, 40, 300} {
		whole := 13 + 15 + 13 + n
		for limit := max(whole-20, 28); limit < whole+20; limit++ {
			p := opened(t, files{}, plenty, limit)
			p.want(t, adds(1, "ab"), api.OK)
			p.want(t, adds(2, mixed(n)), api.OK)
			want := segments(1, first("", a), encoded(rec(2, mixed(n))))
			if limit >= whole {
				want = segments(1, first("", a, rec(2, mixed(n))))
			}
			checkFiles(t, woken(p.d, every()), want)
		}
	}
	p := opened(t, files{}, plenty, 28)
	p.do(t, adds(1, "ab"), adds(2, "cd"), adds(3, ""), adds(4, ""), adds(5, "12"), adds(6, ""))
	checkFiles(t, woken(p.d, every()), segments(1, first("", a), encoded(b, rec(3, "")), encoded(rec(4, ""), rec(5, "12")), encoded(rec(6, ""))))
}

// Each record has a segment of its own where the limit is too little for two.
func TestP12_3_LeastLimit(t *testing.T) {
	for _, limit := range []int{1, 2, 12, 13, 14, 25} {
		p := opened(t, files{}, plenty, limit)
		want := []string{first("")}
		for i := range 120 {
			r := rec(uint8(i+1), mixed(i%30))
			p.do(t, adds(r.Kind, r.Data))
			want = append(want, encoded(r))
		}
		checkFiles(t, woken(p.d, every()), segments(1, want...))
		p.do(t, opens(limit), adds(7, "next"), sets("x"))
		checkFiles(t, p.d, segments(123, first("x")))
	}
}

// The first record of a segment may be longer than the limit, and so may a state.
func TestP12_3_LongerThanTheLimit(t *testing.T) {
	long := rec(9, mixed(100))
	p := opened(t, files{}, plenty, 30)
	p.do(t, adds(9, long.Data), adds(1, "ab"), adds(2, "cd"), adds(9, long.Data), adds(9, long.Data), adds(1, ""))
	checkFiles(t, woken(p.d, every()), segments(1, first(""), encoded(long), encoded(a, b), encoded(long), encoded(long), encoded(rec(1, ""))))
	p.do(t, sets(long.Data), adds(1, "ab"), opens(30), adds(2, "cd"))
	checkFiles(t, woken(p.d, every()), segments(7, first(long.Data), encoded(a, b)))
}

// A segment without a record takes the next one, however long that is: one of no byte, and one of which nothing was left.
func TestP12_3_SegmentOfNoByte(t *testing.T) {
	for _, rest := range []string{"", encoded(a)[:1], encoded(a)[:14]} {
		for _, last := range []int{2, 99, mostSegment} {
			for _, r := range []api.Record{rec(1, ""), a, rec(9, mixed(100)), rec(3, mixed(mostData))} {
				for _, limit := range []int{1, 30} {
					p := opened(t, segments(last-1, first("x"), rest), plenty, limit)
					p.want(t, adds(r.Kind, r.Data), api.OK)
					checkFiles(t, woken(p.d, every()), segments(last-1, first("x"), encoded(r)))
				}
			}
		}
	}
}

func TestP12_3_LongestData(t *testing.T) {
	for _, data := range []string{"", mixed(mostData - 1), mixed(mostData)} {
		for _, limit := range []int{1, 30, math.MaxInt} {
			p := opened(t, files{}, plenty, limit)
			p.want(t, adds(255, data), api.OK)
			p.want(t, adds(1, data), api.OK)
			p.do(t, saves(), opens(limit))
			checkHas(t, "Open", p.j, "", []api.Record{rec(255, data), rec(1, data)}, false)
		}
	}
	for _, n := range []int{mostData + 1, mostData + 2, 2 * mostData, mostFile, 2 * mostFile} {
		p := opened(t, segments(1, first("x", a)), plenty, 30)
		p.do(t, fuses(1))
		p.want(t, adds(1, mixed(n)), api.ErrLong)
		p.want(t, adds(255, strings.Repeat("\x00", n)), api.ErrLong)
		p.want(t, adds(0, mixed(n)), api.ErrArg)
		checkHas(t, "too long", p.j, "x", []api.Record{a}, false)
		p.do(t, fuses(0))
		p.want(t, adds(1, "ab"), api.OK)
	}
}

func TestP12_3_GreatestSegment(t *testing.T) {
	tooLong := mixed(mostData + 1)
	p := opened(t, segments(mostSegment-1, first("x")), plenty, 29)
	p.want(t, adds(1, "ab"), api.OK)
	p.want(t, adds(2, "cd"), api.OK)
	p.do(t, fuses(1))
	// Nothing is done, not even a Sync, and what fits still goes there.
	p.want(t, adds(3, "ef"), api.ErrFull)
	p.want(t, adds(4, mixed(mostData)), api.ErrFull)
	p.want(t, adds(0, tooLong), api.ErrArg)
	p.want(t, adds(5, tooLong), api.ErrLong)
	p.do(t, fuses(0))
	p.want(t, adds(6, "1"), api.OK)
	p.want(t, adds(7, ""), api.ErrFull)
	p.want(t, saves(), api.OK)
	// It is told that the disk is down only by an operation.
	p.do(t, crashes())
	p.want(t, adds(7, ""), api.ErrFull)
	checkHas(t, "no operation", p.j, "x", []api.Record{a, b, rec(6, "1")}, false)
	p.want(t, saves(), api.ErrDown)
	p.want(t, adds(7, ""), api.ErrDown)
	p.do(t, wakes(), opens(42))
	p.want(t, adds(7, ""), api.OK)
	p.want(t, adds(8, ""), api.ErrFull)
	p.do(t, opens(1))
	p.want(t, adds(8, ""), api.ErrFull)
}

func TestP12_3_OrderOfOperations(t *testing.T) {
	ready := func(f files, limit int, l ...call) func() *pair {
		return func() *pair {
			p := opened(t, f, plenty, limit)
			p.do(t, l...)
			return p
		}
	}
	one := segments(4, first("x", a))
	checkOrder(t, ready(one, 100), adds(2, "cd"), appends("j.00000004", encoded(b)))
	checkOrder(t, ready(one, 100, adds(2, "cd")), adds(3, "ef"), appends("j.00000004", encoded(rec(3, "ef"))))
	checkOrder(t, ready(one, 30), adds(2, "cd"), syncs("j.00000004"), appends("j.00000005", encoded(b)))
	checkOrder(t, ready(one, 44, adds(2, "cd")), adds(3, "ef"), syncs("j.00000004"), appends("j.00000005", encoded(rec(3, "ef"))))
	checkOrder(t, ready(one, 30, adds(2, "cd")), adds(3, ""), appends("j.00000005", encoded(rec(3, ""))))
	checkOrder(t, ready(one, 30, adds(2, "cd"), adds(1, "ab")), adds(3, ""), syncs("j.00000005"), appends("j.00000006", encoded(rec(3, ""))))
	checkOrder(t, ready(one, 100, adds(2, "cd")), saves(), syncs("j.00000004"))
	checkOrder(t, ready(one, 30, adds(2, "cd")), saves(), syncs("j.00000005"))
	checkOrder(t, ready(one, 30), saves(), syncs("j.00000004"))
}

// At each operation the power fails; the journal has what it had, and is broken.
func TestP12_3_PowerFails(t *testing.T) {
	for _, limit := range []int{1, 100} {
		for fuse := 1; fuse <= 2; fuse++ {
			p := opened(t, segments(4, first("x", a)), plenty, limit)
			p.do(t, fuses(fuse))
			if limit > 1 && fuse > 1 {
				p.want(t, adds(2, "cd"), api.OK)
				p.want(t, adds(2, "cd"), api.ErrDown)
				checkHas(t, "Append", p.j, "x", []api.Record{a, b}, true)
			} else {
				p.want(t, adds(2, "cd"), api.ErrDown)
				checkHas(t, "Append", p.j, "x", []api.Record{a}, true)
			}
			p.checkBroken(t)
		}
		p := opened(t, segments(4, first("x", a)), plenty, limit)
		p.do(t, adds(2, "cd"), fuses(1))
		p.want(t, saves(), api.ErrDown)
		checkHas(t, "Sync", p.j, "x", []api.Record{a, b}, true)
		p.checkBroken(t)
	}
}

// A record for which there is no room leaves the journal as it was, and smaller ones still find theirs.
func TestP12_3_FullDisk(t *testing.T) {
	for _, limit := range []int{1, 40, 100} {
		for room := range 60 {
			p := opened(t, segments(4, first("x", a)), 29+room, limit)
			want := []api.Record{a}
			for _, r := range []api.Record{rec(9, mixed(30)), b, rec(8, mixed(10)), rec(7, "1"), rec(6, ""), rec(5, ""), rec(4, "")} {
				is := api.OK
				if size := len(encoded(r)); size > room {
					is = api.ErrFull
				} else {
					room -= size
					want = append(want, r)
				}
				p.want(t, adds(r.Kind, r.Data), is)
				checkHas(t, "Append", p.j, "x", want, false)
			}
			p.do(t, saves(), opens(limit))
			checkHas(t, "Open", p.j, "x", want, false)
		}
	}
}

// Where the limit is more than a file takes, what a file does not take is refused, and the journal goes on.
func TestP12_3_FileTooLong(t *testing.T) {
	full := rec(1, mixed(mostData))
	left := mostFile - 13 - 15*len(encoded(full)) - 13
	for _, limit := range []int{mostFile + 13, mostFile + 100, math.MaxInt} {
		p := opened(t, files{}, plenty, limit)
		for range 15 {
			p.step(t, adds(1, full.Data))
		}
		p.want(t, adds(2, mixed(left+1)), api.ErrLong)
		p.want(t, adds(3, mixed(left)), api.OK)
		p.want(t, adds(4, ""), api.ErrLong)
		checkHas(t, "full", p.j, "", append(slices.Repeat([]api.Record{full}, 15), rec(3, mixed(left))), false)
		p.want(t, saves(), api.OK)
		p.want(t, opens(limit), api.OK)
		p.want(t, adds(4, ""), api.ErrLong)
		p.want(t, sets("x"), api.OK)
		p.want(t, adds(4, ""), api.OK)
		checkFiles(t, woken(p.d, every()), segments(2, first("x", rec(4, ""))))
	}
	// Where the limit is less, there is a next segment.
	for _, limit := range []int{mostFile, mostFile + 12} {
		p := opened(t, files{}, plenty, limit)
		for range 15 {
			p.step(t, adds(1, full.Data))
		}
		p.want(t, adds(3, mixed(left)), api.OK)
		p.want(t, adds(4, ""), api.OK)
		if l := p.d.List(); !slices.Equal(l, []string{"j.00000001", "j.00000002"}) {
			t.Error(l)
		}
	}
}

func TestP12_3_Sync(t *testing.T) {
	p := opened(t, files{}, plenty, 100)
	p.want(t, saves(), api.OK)
	p.do(t, adds(1, "ab"), adds(2, "cd"))
	checkFiles(t, woken(p.d, nil), segments(1, first("")))
	p.want(t, saves(), api.OK)
	checkFiles(t, woken(p.d, nil), segments(1, first("", a, b)))
	p.do(t, adds(1, "ab"), sets("x"), adds(2, "cd"), saves(), saves())
	checkFiles(t, woken(p.d, nil), segments(2, first("x", b)))
}

func TestP12_4_States(t *testing.T) {
	for _, limit := range []int{1, 30, math.MaxInt} {
		p := opened(t, files{}, plenty, limit)
		for i, state := range []string{"", "x", "", "\x00\xff", first("y", a), mixed(100), mixed(mostData - 1), mixed(mostData), "z"} {
			p.do(t, adds(1, "ab"), adds(2, "cd"))
			p.want(t, sets(state), api.OK)
			checkHas(t, "Checkpoint", p.j, state, nil, false)
			if i%2 == 0 {
				p.want(t, sets(state), api.OK)
			}
			checkFiles(t, p.d, files{p.segment(t): first(state)})
			p.want(t, opens(limit), api.OK)
			checkHas(t, "Open", p.j, state, nil, false)
		}
	}
}

func TestP12_4_TooLong(t *testing.T) {
	for _, n := range []int{mostData + 1, mostData + 2, 2 * mostData, 2 * mostFile} {
		for _, last := range []int{1, mostSegment} {
			p := opened(t, segments(last, first("x", a)), plenty, 100)
			p.do(t, adds(2, "cd"), fuses(1))
			p.want(t, sets(mixed(n)), api.ErrLong)
			p.want(t, sets(strings.Repeat("\x00", n)), api.ErrLong)
			checkHas(t, "too long", p.j, "x", []api.Record{a, b}, false)
			p.do(t, fuses(0))
			p.want(t, adds(3, "ef"), api.OK)
		}
	}
}

func TestP12_4_GreatestSegment(t *testing.T) {
	p := opened(t, segments(mostSegment-1, first("x", a)), plenty, 30)
	p.want(t, sets("y"), api.OK)
	checkFiles(t, p.d, segments(mostSegment, first("y")))
	p.do(t, adds(1, "ab"), fuses(1))
	p.want(t, sets("z"), api.ErrFull)
	p.want(t, sets(mixed(mostData+1)), api.ErrLong)
	checkHas(t, "Checkpoint", p.j, "y", []api.Record{a}, false)
	p.do(t, crashes())
	p.want(t, sets("z"), api.ErrFull)
	checkHas(t, "no operation", p.j, "y", []api.Record{a}, false)
	p.want(t, saves(), api.ErrDown)
	p.want(t, sets("z"), api.ErrDown)
	p = opened(t, segments(mostSegment-1, first("x"), encoded(a)), plenty, 30)
	p.want(t, sets("z"), api.ErrFull)
	p.want(t, saves(), api.OK)
}

// several is a journal with records in several segments, the last ones of them loose.
func several(t *testing.T, room int) *pair {
	t.Helper()
	p := opened(t, segments(8, first("x", a)), room, 30)
	p.do(t, adds(2, "cd"), adds(1, "ab"), adds(9, mixed(60)), adds(2, "cd"))
	return p
}

func TestP12_4_OrderOfOperations(t *testing.T) {
	checkOrder(t, func() *pair { return several(t, plenty) }, sets("state"),
		appends("j.new", first("state")), syncs("j.new"), renames("j.new", "j.00000012"),
		removes("j.00000008"), removes("j.00000009"), removes("j.00000010"), removes("j.00000011"))
	checkOrder(t, func() *pair { return opened(t, files{}, plenty, 30) }, sets(""),
		appends("j.new", first("")), syncs("j.new"), renames("j.new", "j.00000002"), removes("j.00000001"))
	checkOrder(t, func() *pair { return opened(t, segments(98, first("x"), ""), plenty, 30) }, sets("y"),
		appends("j.new", first("y")), syncs("j.new"), renames("j.new", "j.00000100"), removes("j.00000098"), removes("j.00000099"))
}

// A file j.new of which the journal knows nothing is removed first.
func TestP12_4_FreshFileIsThere(t *testing.T) {
	for _, s := range []string{"", "x", first("not this one")} {
		ready := func() *pair {
			p := several(t, plenty)
			p.d.Append("j.new", s)
			p.md.Append("j.new", s)
			return p
		}
		checkOrder(t, ready, sets("y"), removes("j.new"), appends("j.new", first("y")), syncs("j.new"), renames("j.new", "j.00000012"),
			removes("j.00000008"), removes("j.00000009"), removes("j.00000010"), removes("j.00000011"))
	}
}

// Until the new segment has its name the journal has what it had; from then on it has the state, whatever becomes of the old ones.
func TestP12_4_PowerFails(t *testing.T) {
	had := []api.Record{a, b, a, rec(9, mixed(60)), b}
	for fuse := 1; fuse <= 8; fuse++ {
		p := several(t, plenty)
		p.do(t, fuses(fuse))
		switch {
		case fuse <= 3:
			p.want(t, sets("y"), api.ErrDown)
			checkHas(t, "Checkpoint", p.j, "x", had, true)
			p.checkBroken(t)
		case fuse <= 7:
			p.want(t, sets("y"), api.ErrDown)
			checkHas(t, "Checkpoint", p.j, "y", nil, true)
			p.checkBroken(t)
			p.do(t, wakes(), opens(30))
			checkHas(t, "Open", p.j, "y", nil, false)
			checkFiles(t, p.d, segments(12, first("y")))
		default:
			p.want(t, sets("y"), api.OK)
			checkHas(t, "Checkpoint", p.j, "y", nil, false)
			checkFiles(t, p.d, segments(12, first("y")))
		}
	}
}

// A state for which there is no room beside the old one leaves the journal as it was.
func TestP12_4_FullDisk(t *testing.T) {
	had := []api.Record{a, b, a, rec(9, mixed(60)), b}
	used := several(t, plenty).d.Used()
	for room := range 50 {
		p := several(t, used+room)
		for n := 40; n >= 0; n -= 5 {
			if n+13 > room {
				p.want(t, sets(mixed(n)), api.ErrFull)
				checkHas(t, "Checkpoint", p.j, "x", had, false)
				continue
			}
			p.want(t, sets(mixed(n)), api.OK)
			checkHas(t, "Checkpoint", p.j, mixed(n), nil, false)
			checkFiles(t, p.d, segments(12, first(mixed(n))))
			break
		}
		p.do(t, adds(1, ""), saves(), opens(30))
	}
}

// steps are the calls of which rows are made.
func steps() []call {
	return []call{
		adds(1, "ab"), adds(255, ""), adds(7, mixed(40)), adds(0, "x"), saves(), sets("x"), sets(""), sets(mixed(30)),
		crashes(), wakes(), wakes(3, 3, 3), wakes(every()...), opens(30), opens(1), opens(1000), fuses(1), fuses(2), fuses(4), fuses(6),
	}
}

// All rows of so many calls are made of a journal and of the model.
func checkRows(t *testing.T, ready func() *disk.Disk, n int) {
	t.Helper()
	all := steps()
	var next func(l []call)
	next = func(l []call) {
		if len(l) > 0 {
			p := newPair(ready())
			p.do(t, opens(30))
			for _, c := range l[:len(l)-1] {
				p.step(t, c)
			}
			p.do(t, l[len(l)-1])
		}
		if len(l) < n {
			for _, c := range all {
				next(append(slices.Clip(l), c))
			}
		}
	}
	next(nil)
}

func TestP12_4_RowsOfCalls(t *testing.T) {
	checkRows(t, func() *disk.Disk { return disk.New(plenty) }, 3)
	checkRows(t, func() *disk.Disk { return disk.New(60) }, 3)
	checkRows(t, func() *disk.Disk { return segments(mostSegment-2, first("w"), first("x", a)).on(plenty) }, 3)
	checkRows(t, func() *disk.Disk { return segments(9, first("x", a), encoded(b)[:9]).on(plenty) }, 3)
}

func TestP12_4_LongRowsOfCalls(t *testing.T) {
	var dice dice
	for range 1500 {
		var p *pair
		switch dice.below(3) {
		case 0:
			p = newPair(disk.New(plenty))
		case 1:
			p = newPair(disk.New(20 + dice.below(400)))
		default:
			p = newPair(segments(mostSegment-dice.below(6), first("x", a)).on(plenty))
		}
		p.do(t, opens(1+dice.below(80)))
		for range 40 {
			p.do(t, anyCall(&dice))
			if p.d.Down() && dice.below(3) == 0 {
				p.do(t, saves(), wakes(dice.below(30), dice.below(30), dice.below(30)), opens(1+dice.below(80)))
			}
		}
	}
}

// anyCall is a call, most often an Append.
func anyCall(dice *dice) call {
	switch dice.below(16) {
	case 0, 1:
		return sets(mixed(dice.below(40)))
	case 2, 3:
		return saves()
	case 4:
		return fuses(dice.below(9))
	case 5:
		if dice.below(4) == 0 {
			return crashes()
		}
		return opens(1 + dice.below(80))
	case 6:
		return adds(0, "x")
	}
	return adds(uint8(1+dice.below(255)), mixed(dice.below(40)))
}

// had is what a journal had at some time.
type had struct {
	state   string
	records []api.Record
}

// hadBy tells whether a journal has what one of them was.
func hadBy(j *journal.Journal, l []had) bool {
	return slices.ContainsFunc(l, func(h had) bool {
		return j.State() == h.state && slices.Equal(j.Records(), h.records)
	})
}

// doing is a journal while calls are made of it, with all that it may have after a crash: what it had at its last Open, Sync or Checkpoint that returned OK, and later.
type doing struct {
	j   *journal.Journal
	may []had
}

// now is what the journal has.
func (d *doing) now() had { return had{d.j.State(), d.j.Records()} }

// act is a call of a journal by which it comes to have something.
type act struct {
	what string
	on   func(j *journal.Journal) api.Errno
	// What there is if it is done completely.
	done func(h had) had
	// Whether no crash takes what there is when it returned OK.
	lasts bool
}

func actAdd(kind uint8, data string) act {
	return act{fmt.Sprintf("Append(%d, %d bytes)", kind, len(data)), func(j *journal.Journal) api.Errno { return j.Append(rec(kind, data)) }, func(h had) had {
		return had{h.state, append(slices.Clip(h.records), rec(kind, data))}
	}, false}
}

func actSave() act {
	return act{"Sync", (*journal.Journal).Sync, func(h had) had { return h }, true}
}

func actSet(state string) act {
	return act{fmt.Sprintf("Checkpoint(%d bytes)", len(state)), func(j *journal.Journal) api.Errno { return j.Checkpoint(state) }, func(had) had { return had{state, nil} }, true}
}

// do makes a call; if the power fails at it, it may be done completely, or not at all.
func (d *doing) do(t *testing.T, a act) api.Errno {
	t.Helper()
	was := d.now()
	e := a.on(d.j)
	switch {
	case e == api.OK && a.lasts:
		d.may = []had{d.now()}
	case e == api.OK:
		d.may = append(d.may, d.now())
	case e == api.ErrDown:
		d.may = append(d.may, a.done(was))
	default:
		t.Fatalf("%s: %d", a.what, e)
	}
	if e == api.OK && !hadBy(d.j, []had{a.done(was)}) {
		t.Fatalf("%s: %s", a.what, show(d.j.Records()))
	}
	return e
}

// keeps are the numbers of loose bytes that each of a disk's files may keep: each number of one, with none, some and all of the others.
func keeps(d *disk.Disk) [][]int {
	names := d.List()
	loose := make([]int, len(names))
	all, safe := filesOf(d, every()), filesOf(d, nil)
	for i, name := range names {
		loose[i] = len(all[name]) - len(safe[name])
	}
	l := [][]int{make([]int, len(names)), loose}
	for i, n := range loose {
		for kept := range n + 1 {
			for _, others := range []int{0, 5, math.MaxInt} {
				keep := make([]int, len(names))
				for k := range keep {
					keep[k] = min(others, loose[k])
				}
				keep[i] = kept
				l = append(l, keep)
			}
		}
	}
	slices.SortFunc(l, slices.Compare)
	return slices.CompactFunc(l, slices.Equal)
}

// checkComesBack asks, of a disk after a crash, whatever it keeps, whether Open finds what it may; and whether it finds the same if the power fails at an operation of Open.
func checkComesBack(t *testing.T, did string, d *disk.Disk, limit int, may []had) {
	t.Helper()
	for _, keep := range keeps(d) {
		awake := woken(d, keep)
		j, e := journal.Open(awake.Copy(), limit)
		if e != api.OK || !hadBy(j, may) {
			t.Fatalf("%s, then %d kept, Open: %d, %s, %s", did, keep, e, brief(j.State()), show(j.Records()))
		}
		is := []had{{j.State(), j.Records()}}
		for fuse := 1; ; fuse++ {
			again := awake.Copy()
			again.Fuse(fuse)
			if j, e := journal.Open(again, limit); e == api.OK {
				checkGoesOn(t, did, again, j, limit)
				break
			} else if e != api.ErrDown || j != nil {
				t.Fatalf("%s, Open, a fuse of %d: %d", did, fuse, e)
			}
			for _, keep := range keeps(again) {
				last := woken(again, keep)
				if j, e := journal.Open(last, limit); e != api.OK || !hadBy(j, is) {
					t.Fatalf("%s, Open, a fuse of %d, %d kept, Open: %d, %s, %s", did, fuse, keep, e, brief(j.State()), show(j.Records()))
				}
			}
		}
	}
}

// checkGoesOn asks whether a journal that was opened again works as another one does.
func checkGoesOn(t *testing.T, did string, d *disk.Disk, j *journal.Journal, limit int) {
	t.Helper()
	d.Fuse(0)
	on := doing{j: j}
	on.may = []had{on.now()}
	for _, a := range []act{actAdd(77, "next"), actSave(), actAdd(78, mixed(20)), actSet("on"), actAdd(79, "")} {
		if e := on.do(t, a); e != api.OK {
			t.Fatalf("%s, opened again, %s: %d", did, a.what, e)
		}
		again, e := journal.Open(woken(d, nil), limit)
		if e != api.OK || !hadBy(again, on.may) {
			t.Fatalf("%s, opened again, %s, Open: %d, %s, %s", did, a.what, e, brief(again.State()), show(again.Records()))
		}
	}
}

// scripts are rows of calls that meet each operation in each order that matters.
func scripts() [][]act {
	long := mixed(45)
	return [][]act{
		{actAdd(1, "ab"), actAdd(2, "cd"), actAdd(3, ""), actSave(), actAdd(4, long), actAdd(5, "ef")},
		{actAdd(1, "ab"), actSave(), actAdd(2, "cd"), actSet("x"), actAdd(3, "ef"), actAdd(255, "gh"), actSave()},
		{actSet("x"), actSet(""), actAdd(1, "ab"), actSet(long), actAdd(1, "ab")},
		{actAdd(9, long), actAdd(8, long), actSet("y"), actAdd(7, long), actSave(), actAdd(6, ""), actSet("z")},
		{actAdd(1, ""), actAdd(1, ""), actAdd(1, ""), actAdd(1, ""), actAdd(1, ""), actSave(), actAdd(1, ""), actSet("w")},
		{actSave(), actAdd(1, "ab"), actAdd(1, "ab"), actSet("x"), actSet("x"), actAdd(1, "ab"), actAdd(1, "ab")},
	}
}

// The power fails at each operation of a script, and between each two of its calls.
func TestP12_5_PowerFails(t *testing.T) {
	for i, script := range scripts() {
		for _, limit := range []int{1, 30, 45, 1000} {
			for _, f := range []files{{}, segments(98, first("old", a), first("x", b), encoded(a))} {
				did := fmt.Sprintf("script %d, limit %d", i, limit)
				checkBetween(t, did, f, script, limit)
				for fuse := 1; checkAt(t, fmt.Sprintf("%s, a fuse of %d", did, fuse), f, script, limit, fuse); fuse++ {
				}
			}
		}
	}
}

// checkBetween makes the calls of a script, and asks after each what is there if the power fails then.
func checkBetween(t *testing.T, did string, f files, script []act, limit int) {
	t.Helper()
	d, on := started(t, f, limit)
	for _, a := range script {
		on.do(t, a)
		between := d.Copy()
		between.Crash()
		checkComesBack(t, did+", "+a.what, between, limit, on.may)
	}
}

// checkAt makes the calls of a script, up to an operation at which the power fails, and asks what is there then; it tells whether there is that operation.
func checkAt(t *testing.T, did string, f files, script []act, limit, fuse int) bool {
	t.Helper()
	d, on := started(t, f, limit)
	d.Fuse(fuse)
	for _, a := range script {
		if on.do(t, a) == api.ErrDown {
			checkComesBack(t, did, d, limit, on.may)
			return true
		}
	}
	return false
}

// started is a journal that was opened on a disk with those files.
func started(t *testing.T, f files, limit int) (*disk.Disk, *doing) {
	t.Helper()
	d := f.on(plenty)
	j, e := journal.Open(d, limit)
	if e != api.OK {
		t.Fatalf("Open(%d) of %q: %d", limit, f.names(), e)
	}
	on := &doing{j: j}
	on.may = []had{on.now()}
	return d, on
}

// The power fails at each operation of the first Open.
func TestP12_5_NewDisk(t *testing.T) {
	for _, f := range []files{{}, {"j.new": first("not this one")}} {
		for fuse := 1; fuse <= 3+len(f); fuse++ {
			d := f.on(plenty)
			d.Fuse(fuse)
			if j, e := journal.Open(d, 30); j != nil || e != api.ErrDown {
				t.Fatal(fuse, e)
			}
			checkComesBack(t, fmt.Sprintf("Open, a fuse of %d", fuse), d, 30, []had{{}})
		}
	}
}

// What was appended and not synced may be lost; what was synced is not.
func TestP12_5_WhatLasts(t *testing.T) {
	p := opened(t, files{}, plenty, 1000)
	p.do(t, adds(1, "ab"), saves(), adds(2, "cd"), crashes(), saves(), wakes(), opens(30))
	checkHas(t, "Open", p.j, "", []api.Record{a}, false)
	p.do(t, adds(2, "cd"), crashes(), saves(), wakes(every()...), opens(30))
	checkHas(t, "Open", p.j, "", []api.Record{a, b}, false)
	// Of what an Append leaves behind for the next segment all is safe.
	p.do(t, adds(3, ""), adds(1, "ab"), crashes(), saves(), wakes(), opens(30))
	checkHas(t, "Open", p.j, "", []api.Record{a, b, rec(3, "")}, false)
	p.do(t, sets("x"), crashes(), saves(), wakes(), opens(30))
	checkHas(t, "Open", p.j, "x", nil, false)
}

// With records that come one by one, and the power failing again and again, nothing that was synced is lost, and all is in order.
func TestP12_5_AgainAndAgain(t *testing.T) {
	var dice dice
	for range 300 {
		d := disk.New(plenty)
		on := doing{may: []had{{}}}
		for range 12 {
			limit := 1 + dice.below(70)
			j, e := journal.Open(d, limit)
			if e != api.OK || !hadBy(j, on.may) {
				t.Fatalf("Open: %d, %s, %s", e, brief(j.State()), show(j.Records()))
			}
			on = doing{j: j}
			on.may = []had{on.now()}
			d.Fuse(1 + dice.below(20))
			for e := api.OK; e == api.OK; {
				switch dice.below(8) {
				case 0:
					e = on.do(t, actSet(mixed(dice.below(30))))
				case 1, 2:
					e = on.do(t, actSave())
				default:
					e = on.do(t, actAdd(uint8(1+dice.below(255)), mixed(dice.below(30))))
				}
			}
			if !on.j.Broken() {
				t.Fatal("the power failed, but the journal is not broken")
			}
			d.Wake([]int{dice.below(40), dice.below(40), dice.below(40)})
		}
	}
}

// With the greatest records there are.
func TestP12_5_LongData(t *testing.T) {
	state, data := mixed(mostData), mixed(mostData-1)
	for fuse := 1; fuse <= 9; fuse++ {
		for _, kept := range []int{0, 1, 8, 9, 10, 1000, mostData, mostData + 12, mostData + 13, math.MaxInt} {
			d := disk.New(plenty)
			j, _ := journal.Open(d, 30)
			on := doing{j: j}
			on.may = []had{on.now()}
			d.Fuse(fuse)
			for _, a := range []act{actAdd(1, data), actSet(state), actAdd(2, data), actSave()} {
				if on.do(t, a) == api.ErrDown {
					break
				}
			}
			d.Crash()
			d.Wake([]int{kept, kept, kept})
			if j, e := journal.Open(d, 30); e != api.OK || !hadBy(j, on.may) {
				t.Fatalf("a fuse of %d, %d kept: %d, %s, %s", fuse, kept, e, brief(j.State()), show(j.Records()))
			}
		}
	}
}

// Opened again after each call, without a crash, the journal has what it had, also with another limit.
func TestP12_6_OpenedAgain(t *testing.T) {
	for _, script := range scripts() {
		for _, limit := range []int{1, 28, 30, 45, 1000, math.MaxInt} {
			for _, other := range []int{1, 29, 60, math.MaxInt} {
				d := disk.New(plenty)
				j, e := journal.Open(d, limit)
				if e != api.OK {
					t.Fatal(e)
				}
				on := doing{j: j}
				for i, a := range script {
					on.do(t, a)
					is := on.now()
					for _, limit := range []int{limit, other} {
						on.j, e = journal.Open(d, limit)
						if e != api.OK || !hadBy(on.j, []had{is}) {
							t.Fatalf("%s, then Open: %d, %s, %s", a.what, e, brief(on.j.State()), show(on.j.Records()))
						}
						if i%2 == 0 {
							break
						}
					}
				}
			}
		}
	}
}

// After an error that does not break it, too.
func TestP12_6_AfterAnError(t *testing.T) {
	for room := 13; room < 120; room++ {
		p := opened(t, files{}, room, 30)
		for i, c := range []call{adds(1, mixed(30)), adds(2, "cd"), sets(mixed(25)), adds(0, "x"), adds(3, ""), sets("x"), adds(4, mixed(mostData+1)), adds(5, "ef"), sets(mixed(9)), adds(6, "")} {
			p.do(t, c)
			state, records := p.j.State(), p.j.Records()
			p.want(t, opens(30+i), api.OK)
			checkHas(t, c.what, p.j, state, records, false)
		}
	}
}

// A journal with more segments than a disk's List has in one row of digits.
func TestP12_6_ManySegments(t *testing.T) {
	d := segments(95, first("x")).on(plenty)
	j, e := journal.Open(d, 1)
	if e != api.OK {
		t.Fatal(e)
	}
	var want []api.Record
	for i := range 1500 {
		want = append(want, rec(uint8(i%255+1), mixed(i%7)))
		if e := j.Append(want[i]); e != api.OK {
			t.Fatal(e)
		}
	}
	j, e = journal.Open(d, 40)
	if e != api.OK {
		t.Fatal(e)
	}
	checkHas(t, "Open", j, "x", want, false)
	if n := len(d.List()); n != 1501 {
		t.Errorf("%d segments", n)
	}
	if e := j.Checkpoint("y"); e != api.OK {
		t.Fatal(e)
	}
	checkFiles(t, d, segments(1596, first("y")))
	j, e = journal.Open(d, 40)
	if e != api.OK {
		t.Fatal(e)
	}
	checkHas(t, "Open", j, "y", nil, false)
}
