package disk_test

import (
	"cmp"
	"fmt"
	"math"
	"slices"
	"strings"
	"testing"
	"unsafe"

	"posthouse/api"
	"posthouse/disk"
)

// The limits as the chapter tells them.
const (
	mostName = 40
	mostFile = 1 << 20
)

// plenty is more room than the tests use, unless it is the room that they are about.
const plenty = 1 << 30

// row is a file, by its name, its safe bytes and its loose ones.
type row struct{ name, safe, loose string }

// reference is a disk made from the chapter's words: it keeps its files in the order of their names.
type reference struct {
	room int
	rows []row
	fuse int
	down bool
}

func (r *reference) copied() *reference {
	other := *r
	other.rows = slices.Clone(r.rows)
	return &other
}

// at is where the file of that name is, or -1.
func (r *reference) at(name string) int {
	return slices.IndexFunc(r.rows, func(f row) bool { return f.name == name })
}

func (r *reference) names() []string {
	var l []string
	for _, f := range r.rows {
		l = append(l, f.name)
	}
	return l
}

func (r *reference) used() int {
	n := 0
	for _, f := range r.rows {
		n += len(f.safe) + len(f.loose)
	}
	return n
}

// isName tells whether a file may have that name: each byte that it may have is written out.
func isName(s string) bool {
	const may = "!\"#$%&'()*+,-./0123456789:;<=>?@ABCDEFGHIJKLMNOPQRSTUVWXYZ[\\]^_`abcdefghijklmnopqrstuvwxyz{|}~"
	for _, b := range []byte(s) {
		if strings.IndexByte(may, b) < 0 {
			return false
		}
	}
	return len(s) > 0 && len(s) <= mostName
}

// fails tells whether the power fails at the operation that comes now.
func (r *reference) fails() bool {
	if r.fuse > 0 {
		r.fuse--
		r.down = r.fuse == 0
	}
	return r.down
}

func (r *reference) append(name, b string) api.Errno {
	size := 0
	if i := r.at(name); i >= 0 {
		size = len(r.rows[i].safe) + len(r.rows[i].loose)
	}
	switch {
	case r.down:
		return api.ErrDown
	case !isName(name):
		return api.ErrArg
	case size+len(b) > mostFile:
		return api.ErrLong
	case r.used()+len(b) > r.room:
		return api.ErrFull
	}
	failed := r.fails()
	if r.at(name) < 0 {
		r.rows = append(slices.Clip(r.rows), row{name: name})
		slices.SortFunc(r.rows, func(a, b row) int { return cmp.Compare(a.name, b.name) })
	}
	r.rows[r.at(name)].loose += b
	if failed {
		return api.ErrDown
	}
	return api.OK
}

func (r *reference) sync(name string) api.Errno {
	i := r.at(name)
	switch {
	case r.down:
		return api.ErrDown
	case i < 0:
		return api.ErrNone
	case r.fails():
		return api.ErrDown
	}
	r.rows[i] = row{name: name, safe: r.rows[i].safe + r.rows[i].loose}
	return api.OK
}

func (r *reference) cut(name string, n int) api.Errno {
	i := r.at(name)
	switch {
	case r.down:
		return api.ErrDown
	case n < 0:
		return api.ErrArg
	case i < 0:
		return api.ErrNone
	case n > len(r.rows[i].safe)+len(r.rows[i].loose):
		return api.ErrArg
	case r.fails():
		return api.ErrDown
	}
	f := &r.rows[i]
	if n <= len(f.safe) {
		f.safe, f.loose = f.safe[:n], ""
	} else {
		f.loose = f.loose[:n-len(f.safe)]
	}
	return api.OK
}

func (r *reference) rename(from, to string) api.Errno {
	i := r.at(from)
	switch {
	case r.down:
		return api.ErrDown
	case !isName(from) || !isName(to):
		return api.ErrArg
	case i < 0:
		return api.ErrNone
	case r.fails():
		return api.ErrDown
	case from == to:
		return api.OK
	}
	f := r.rows[i]
	f.name = to
	var l []row
	for _, other := range r.rows {
		if other.name != from && other.name != to {
			l = append(l, other)
		}
	}
	r.rows = append(l, f)
	slices.SortFunc(r.rows, func(a, b row) int { return cmp.Compare(a.name, b.name) })
	return api.OK
}

func (r *reference) remove(name string) api.Errno {
	i := r.at(name)
	switch {
	case r.down:
		return api.ErrDown
	case i < 0:
		return api.ErrNone
	case r.fails():
		return api.ErrDown
	}
	r.rows = slices.Concat(r.rows[:i], r.rows[i+1:])
	return api.OK
}

func (r *reference) setFuse(n int) {
	if r.down {
		return
	}
	r.fuse = n
	if n < 1 {
		r.fuse = 0
	}
}

func (r *reference) crash() { r.down, r.fuse = true, 0 }

func (r *reference) wake(keep []int) {
	if !r.down {
		return
	}
	r.down = false
	for i := range r.rows {
		f := &r.rows[i]
		kept := ""
		for n := 0; i < len(keep) && n < keep[i] && n < len(f.loose); n++ {
			kept = f.loose[:n+1]
		}
		f.safe, f.loose = f.safe+kept, ""
	}
}

// call is a call of a disk, by what it is, and what a reference does.
type call struct {
	what string
	on   func(d *disk.Disk) api.Errno
	ref  func(r *reference) api.Errno
}

func (c call) String() string { return c.what }

// told is a call in words; of strings that are too long it has the beginning.
func told(name string, l ...any) string {
	words := make([]string, len(l))
	for i, arg := range l {
		words[i] = fmt.Sprint(arg)
		if s, is := arg.(string); is {
			words[i] = fmt.Sprintf("%+q", s[:min(len(s), 50)])
		}
	}
	return fmt.Sprintf("%s(%s)", name, strings.Join(words, ", "))
}

func appends(name, b string) call {
	return call{told("Append", name, b), func(d *disk.Disk) api.Errno { return d.Append(name, b) }, func(r *reference) api.Errno { return r.append(name, b) }}
}

func syncs(name string) call {
	return call{told("Sync", name), func(d *disk.Disk) api.Errno { return d.Sync(name) }, func(r *reference) api.Errno { return r.sync(name) }}
}

func cuts(name string, n int) call {
	return call{told("Cut", name, n), func(d *disk.Disk) api.Errno { return d.Cut(name, n) }, func(r *reference) api.Errno { return r.cut(name, n) }}
}

func renames(from, to string) call {
	return call{told("Rename", from, to), func(d *disk.Disk) api.Errno { return d.Rename(from, to) }, func(r *reference) api.Errno { return r.rename(from, to) }}
}

func removes(name string) call {
	return call{told("Remove", name), func(d *disk.Disk) api.Errno { return d.Remove(name) }, func(r *reference) api.Errno { return r.remove(name) }}
}

// silent is a call that answers nothing.
func silent(what string, on func(d *disk.Disk), ref func(r *reference)) call {
	return call{what, func(d *disk.Disk) api.Errno { on(d); return api.OK }, func(r *reference) api.Errno { ref(r); return api.OK }}
}

func fuses(n int) call {
	return silent(told("Fuse", n), func(d *disk.Disk) { d.Fuse(n) }, func(r *reference) { r.setFuse(n) })
}

func crashes() call { return silent("Crash", (*disk.Disk).Crash, (*reference).crash) }

func wakes(keep ...int) call {
	return silent(told("Wake", keep), func(d *disk.Disk) { d.Wake(keep) }, func(r *reference) { r.wake(keep) })
}

// asks are the calls that look at a file.
func asks(name string) []call {
	read := func(d *disk.Disk) api.Errno { _, e := d.Read(name); return e }
	safe := func(d *disk.Disk) api.Errno { _, e := d.Safe(name); return e }
	ref := func(r *reference) api.Errno {
		if r.down {
			return api.ErrDown
		}
		if r.at(name) < 0 {
			return api.ErrNone
		}
		return api.OK
	}
	return []call{{told("Read", name), read, ref}, {told("Safe", name), safe, ref}}
}

// checkRow asks what a disk that is up tells of a file.
func checkRow(t *testing.T, d *disk.Disk, f row) {
	t.Helper()
	if s, e := d.Read(f.name); s != f.safe+f.loose || e != api.OK {
		t.Errorf("Read of %q: %d bytes, %.80q, %d; not %d bytes, %.80q", f.name, len(s), s, e, len(f.safe)+len(f.loose), f.safe+f.loose)
	}
	if n, e := d.Safe(f.name); n != len(f.safe) || e != api.OK {
		t.Errorf("Safe of %q: %d, %d; not %d", f.name, n, e, len(f.safe))
	}
}

// checkUp asks whether a disk is up, and has those files, given in the order of their names.
func checkUp(t *testing.T, d *disk.Disk, l ...row) {
	t.Helper()
	r := reference{rows: l}
	if d.Down() || d.Used() != r.used() || !slices.Equal(d.List(), r.names()) {
		t.Errorf("Down %v, Used %d, List %q; not false, %d, %q", d.Down(), d.Used(), d.List(), r.used(), r.names())
	}
	for _, f := range l {
		checkRow(t, d, f)
	}
	for _, name := range []string{"", " ", "none", "none\x7f"} {
		checkNone(t, d, name, api.ErrNone)
	}
}

// checkDown asks whether a disk is down, and has those files: of a copy that wakes, as one that is down can't be asked for them.
func checkDown(t *testing.T, d *disk.Disk, l ...row) {
	t.Helper()
	r := reference{rows: l}
	if !d.Down() || d.Used() != r.used() || !slices.Equal(d.List(), r.names()) {
		t.Errorf("Down %v, Used %d, List %q; not true, %d, %q", d.Down(), d.Used(), d.List(), r.used(), r.names())
	}
	for _, name := range append(r.names(), "", " ", "none") {
		checkNone(t, d, name, api.ErrDown)
	}
	var all, none []row
	var most []int
	for _, f := range l {
		all = append(all, row{name: f.name, safe: f.safe + f.loose})
		none = append(none, row{name: f.name, safe: f.safe})
		most = append(most, math.MaxInt)
	}
	c := d.Copy()
	c.Wake(most)
	checkUp(t, c, all...)
	c = d.Copy()
	c.Wake(nil)
	checkUp(t, c, none...)
}

// checkNone asks whether Read and Safe answer that error, and nothing beside it.
func checkNone(t *testing.T, d *disk.Disk, name string, want api.Errno) {
	t.Helper()
	if s, e := d.Read(name); s != "" || e != want {
		t.Errorf("Read of %q: %.80q, %d, not %d", name, s, e, want)
	}
	if n, e := d.Safe(name); n != 0 || e != want {
		t.Errorf("Safe of %q: %d, %d, not %d", name, n, e, want)
	}
}

// both is a disk beside a reference.
type both struct {
	d *disk.Disk
	r *reference
}

func newBoth(room int) both { return both{disk.New(room), &reference{room: max(room, 0)}} }

// copied is a copy of the disk, beside one of the reference.
func (b both) copied() both { return both{b.d.Copy(), b.r.copied()} }

// check asks whether the disk is as the reference is.
func (b both) check(t *testing.T) {
	t.Helper()
	if b.r.down {
		checkDown(t, b.d, b.r.rows...)
	} else {
		checkUp(t, b.d, b.r.rows...)
	}
}

// do makes those calls of both, and asks whether they answer the same, and are the same.
func (b both) do(t *testing.T, l ...call) both {
	t.Helper()
	for _, c := range l {
		e, want := c.on(b.d), c.ref(b.r)
		if e != want {
			t.Errorf("%s: %d, not %d", c, e, want)
		}
		b.check(t)
	}
	return b
}

// want asks whether a call answers that error, by the reference, too.
func (b both) want(t *testing.T, c call, want api.Errno) {
	t.Helper()
	if e := c.ref(b.r); e != want {
		t.Errorf("%s: the reference answers %d, not %d", c, e, want)
	}
	if e := c.on(b.d); e != want {
		t.Errorf("%s: %d, not %d", c, e, want)
	}
	b.check(t)
}

// piled is a disk that is up, with those files.
func piled(t *testing.T, room int, l ...row) both {
	t.Helper()
	b := newBoth(room)
	for _, f := range l {
		b.do(t, appends(f.name, f.safe), syncs(f.name), appends(f.name, f.loose))
	}
	return b
}

// few are files of each kind.
func few() []row {
	return []row{{"!", "", ""}, {"a", "xyz", "12"}, {"b", "only safe", ""}, {"c", "", "only loose"}, {"~", "s", "\x00\xff"}}
}

// mixed is so many bytes, unlike the ones of other lengths.
func mixed(n int) string {
	b := make([]byte, n)
	for i := range b {
		b[i] = byte(i*7 + i>>8 + n)
	}
	return string(b)
}

// goodNames are names at the chapter's edges.
func goodNames() []string {
	l := []string{"a", "!", "~", "!~", "j.00000001", "j.new", ".", "..", "/", "\\", "a/b", strings.Repeat("!", mostName), strings.Repeat("~", mostName), strings.Repeat("n", mostName-1)}
	for b := 33; b <= 126; b++ {
		l = append(l, string(rune(b)), "x"+string(rune(b))+"y")
	}
	slices.Sort(l)
	return slices.Compact(l)
}

// badNames are names that no file has.
func badNames() []string {
	l := []string{"", " ", "a b", "a ", " a", "\x00", "a\x00", "a\n", "\x7f", "a\x7f", "é", "a\xff", strings.Repeat("n", mostName+1), strings.Repeat("n", 2*mostName), strings.Repeat("n", mostName) + " ", strings.Repeat("\xff", mostName), strings.Repeat("n", 1<<20)}
	for b := range 256 {
		if b <= 32 || b >= 127 {
			l = append(l, string([]byte{byte(b)}), string([]byte{'a', byte(b), 'b'}))
		}
	}
	return l
}

func TestP10_1_New(t *testing.T) {
	for _, room := range []int{0, 1, 9, plenty, math.MaxInt, -1, -9, math.MinInt} {
		for range 2 {
			d := disk.New(room)
			if d == nil {
				t.Fatal("New returned nil")
			}
			checkUp(t, d)
		}
	}
}

// Disks know nothing of one another.
func TestP10_1_SeveralDisks(t *testing.T) {
	one, other := newBoth(5), newBoth(7)
	one.do(t, appends("a", "12345"), syncs("a"))
	checkUp(t, other.d)
	other.do(t, appends("a", "1234567"), fuses(1))
	one.do(t, cuts("a", 4), appends("b", "x"))
	other.do(t, removes("a"))
	checkUp(t, one.d, row{"a", "1234", ""}, row{"b", "", "x"})
	checkDown(t, other.d, row{"a", "", "1234567"})
}

func TestP10_1_Room(t *testing.T) {
	for _, room := range []int{0, -1, math.MinInt} {
		b := newBoth(room)
		// A file without bytes needs no room.
		b.want(t, appends("b", "x"), api.ErrFull)
		b.want(t, appends("a", ""), api.OK)
		b.want(t, appends("a", ""), api.OK)
		b.want(t, appends("a", "x"), api.ErrFull)
		b.want(t, syncs("a"), api.OK)
		checkUp(t, b.d, row{"a", "", ""})
	}
	for _, room := range []int{1, 2, 9, 255, 256, 65536} {
		b := newBoth(room)
		b.want(t, appends("a", mixed(room+1)), api.ErrFull)
		b.want(t, appends("a", mixed(room)), api.OK)
		b.want(t, appends("a", "x"), api.ErrFull)
		b.want(t, appends("b", "x"), api.ErrFull)
		b.want(t, appends("b", ""), api.OK)
		b.want(t, cuts("a", room-1), api.OK)
		b.want(t, appends("b", "xy"), api.ErrFull)
		b.want(t, appends("b", "x"), api.OK)
		b.want(t, appends("b", "x"), api.ErrFull)
	}
}

// What is there again may be used again, by whatever it was given back.
func TestP10_1_RoomIsGivenBack(t *testing.T) {
	full := func() both { return piled(t, 9, row{"a", "123", "45"}, row{"b", "6", "789"}) }
	for _, c := range []struct {
		give []call
		free int
	}{
		{[]call{cuts("a", 5)}, 0},
		{[]call{cuts("a", 4)}, 1},
		{[]call{cuts("a", 0)}, 5},
		{[]call{removes("a")}, 5},
		{[]call{removes("b")}, 4},
		{[]call{renames("a", "b")}, 4},
		{[]call{renames("b", "a")}, 5},
		{[]call{renames("a", "a")}, 0},
		{[]call{renames("a", "c")}, 0},
		{[]call{syncs("a")}, 0},
		{[]call{crashes(), wakes()}, 5},
		{[]call{crashes(), wakes(2, 3)}, 0},
		{[]call{crashes(), wakes(1, 1)}, 3},
		{[]call{crashes(), wakes(0, 9)}, 2},
		{[]call{fuses(1), removes("a"), wakes(9, 9)}, 0},
		{[]call{fuses(1), cuts("a", 0), wakes(9, 9)}, 0},
		{[]call{fuses(1), renames("a", "b"), wakes(9, 9)}, 0},
	} {
		b := full()
		b.do(t, c.give...)
		if b.d.Used() != 9-c.free {
			t.Errorf("%s: Used is %d, not %d", c.give, b.d.Used(), 9-c.free)
		}
		b.want(t, appends("z", mixed(c.free+1)), api.ErrFull)
		b.want(t, appends("z", mixed(c.free)), api.OK)
		b.want(t, appends("z", "x"), api.ErrFull)
	}
}

func TestP10_1_ListIsSorted(t *testing.T) {
	names := goodNames()
	var dice dice
	for range 7 {
		b := newBoth(plenty)
		mixedUp := slices.Clone(names)
		for i := range mixedUp {
			other := dice.below(i + 1)
			mixedUp[i], mixedUp[other] = mixedUp[other], mixedUp[i]
		}
		for _, name := range mixedUp {
			b.d.Append(name, "x")
		}
		if !slices.Equal(b.d.List(), names) || b.d.Used() != len(names) {
			t.Errorf("List is %q, Used %d", b.d.List(), b.d.Used())
		}
	}
	b := newBoth(plenty)
	for _, name := range []string{"ab", "a", "b", "aa", "aaa", "B", "A", "a!", "10", "9", "09"} {
		b.do(t, appends(name, name))
	}
	if l := b.d.List(); !slices.Equal(l, []string{"09", "10", "9", "A", "B", "a", "a!", "aa", "aaa", "ab", "b"}) {
		t.Errorf("List is %q", l)
	}
}

func TestP10_1_WhileDown(t *testing.T) {
	b := piled(t, plenty, few()...)
	b.do(t, crashes())
	if !b.d.Down() || b.d.Used() != 5+9+10+3 || !slices.Equal(b.d.List(), []string{"!", "a", "b", "c", "~"}) {
		t.Error(b.d.Down(), b.d.Used(), b.d.List())
	}
	b.do(t, wakes())
	if b.d.Down() || b.d.Used() != 3+9+1 || !slices.Equal(b.d.List(), []string{"!", "a", "b", "c", "~"}) {
		t.Error(b.d.Down(), b.d.Used(), b.d.List())
	}
	empty := newBoth(0).do(t, crashes())
	if !empty.d.Down() || empty.d.Used() != 0 || len(empty.d.List()) != 0 {
		t.Error(empty.d.Down(), empty.d.Used(), empty.d.List())
	}
}

// everyCall are calls of each kind, with good and with wrong arguments, on the files of few.
func everyCall() []call {
	l := operations()
	l = append(l, refused()...)
	for _, name := range []string{"a", "none", ""} {
		l = append(l, asks(name)...)
	}
	return l
}

// operations are calls that are not refused on the files of few.
func operations() []call {
	return []call{
		appends("a", "more"), appends("a", ""), appends("new", "more"), appends("new", ""), appends("!", "x"),
		syncs("a"), syncs("b"), syncs("c"), syncs("!"),
		cuts("a", 0), cuts("a", 2), cuts("a", 3), cuts("a", 4), cuts("a", 5), cuts("!", 0), cuts("c", 1),
		renames("a", "new"), renames("a", "b"), renames("a", "!"), renames("!", "a"), renames("a", "a"), renames("c", "c"),
		removes("a"), removes("!"), removes("~"),
	}
}

// refused are calls that are refused on the files of few, each by its error's own cause, on a disk with room for what they have.
func refused() []call {
	l := []call{
		appends("a", mixed(mostFile-4)), appends("new", mixed(mostFile+1)), appends("c", mixed(mostFile)),
		appends("a", "x"+mixed(100)), appends("new", "x"+mixed(100)),
		syncs("none"), cuts("none", 0), cuts("none", 9), cuts("none", -1), cuts("a", -1), cuts("a", math.MinInt), cuts("a", 6), cuts("!", 1), cuts("a", math.MaxInt),
		renames("none", "a"), renames("none", "other"), renames("none", "none"), removes("none"),
	}
	for _, name := range []string{"", " ", "a\x7f", strings.Repeat("n", mostName+1)} {
		l = append(l, appends(name, ""), appends(name, "x"), syncs(name), cuts(name, 0), cuts(name, -1), renames(name, "a"), renames("a", name), renames("none", name), renames(name, name), removes(name))
	}
	return l
}

// roomy is a disk with the files of few, and 100 bytes of room behind them.
func roomy(t *testing.T) both {
	t.Helper()
	return piled(t, 27+100, few()...)
}

func TestP10_1_NoDisk(t *testing.T) {
	for _, d := range []*disk.Disk{nil, {}, new(disk.Disk)} {
		for range 2 {
			for _, c := range everyCall() {
				if e := c.on(d); e != api.ErrNil {
					t.Errorf("%s: %d", c, e)
				}
			}
			d.Fuse(1)
			d.Crash()
			d.Wake([]int{1})
			d.Wake(nil)
			d.Fuse(0)
			if !d.Down() || d.Used() != 0 || len(d.List()) != 0 || d.Copy() != nil {
				t.Error(d.Down(), d.Used(), d.List(), d.Copy())
			}
			for _, name := range []string{"a", "", " "} {
				checkNone(t, d, name, api.ErrNil)
			}
		}
	}
}

func TestP10_2_Append(t *testing.T) {
	b := newBoth(plenty)
	b.want(t, appends("a", "xy"), api.OK)
	checkUp(t, b.d, row{"a", "", "xy"})
	b.want(t, appends("a", ""), api.OK)
	checkUp(t, b.d, row{"a", "", "xy"})
	b.want(t, appends("b", ""), api.OK)
	checkUp(t, b.d, row{"a", "", "xy"}, row{"b", "", ""})
	b.want(t, syncs("a"), api.OK)
	b.want(t, appends("a", "\x00\xff"), api.OK)
	b.want(t, appends("a", "é"), api.OK)
	b.want(t, appends("a", ""), api.OK)
	checkUp(t, b.d, row{"a", "xy", "\x00\xffé"}, row{"b", "", ""})
}

func TestP10_2_AppendNames(t *testing.T) {
	for _, name := range goodNames() {
		b := newBoth(plenty)
		b.want(t, appends(name, "x"), api.OK)
		b.want(t, appends(name, "y"), api.OK)
		b.want(t, syncs(name), api.OK)
		b.want(t, renames(name, "a"), api.OK)
		b.want(t, renames("a", name), api.OK)
		b.want(t, cuts(name, 1), api.OK)
		checkUp(t, b.d, row{name, "x", ""})
		b.want(t, removes(name), api.OK)
	}
	b := piled(t, plenty, few()...)
	for _, name := range badNames() {
		for _, c := range []call{appends(name, ""), appends(name, "x"), renames(name, "a"), renames("a", name), renames("none", name), renames(name, name), cuts(name, -1)} {
			b.want(t, c, api.ErrArg)
		}
		for _, c := range append(asks(name), syncs(name), cuts(name, 0), cuts(name, 9), removes(name)) {
			b.want(t, c, api.ErrNone)
		}
	}
	checkUp(t, b.d, few()...)
}

func TestP10_2_GreatestFile(t *testing.T) {
	all := mixed(mostFile)
	b := newBoth(plenty)
	b.want(t, appends("a", all+"x"), api.ErrLong)
	b.want(t, appends("a", all), api.OK)
	b.want(t, appends("a", ""), api.OK)
	b.want(t, appends("a", "x"), api.ErrLong)
	b.want(t, appends("a", all), api.ErrLong)
	b.want(t, appends("b", all[1:]), api.OK)
	b.want(t, appends("b", "xy"), api.ErrLong)
	b.want(t, appends("b", "x"), api.OK)
	b.want(t, appends("b", "x"), api.ErrLong)
	b.want(t, cuts("a", mostFile+1), api.ErrArg)
	b.want(t, cuts("a", mostFile), api.OK)
	b.want(t, appends("a", "x"), api.ErrLong)
	b.want(t, cuts("a", mostFile-1), api.OK)
	b.want(t, appends("a", "xy"), api.ErrLong)
	b.want(t, appends("a", "y"), api.OK)
	b.want(t, syncs("a"), api.OK)
	b.want(t, renames("a", "b"), api.OK)
	b.want(t, appends("b", "x"), api.ErrLong)
	b.want(t, appends("a", "x"), api.OK)
	checkUp(t, b.d, row{"a", "", "x"}, row{"b", all[:mostFile-1] + "y", ""})
}

// A file that grows by a byte at a time is as great as another one.
func TestP10_2_ByteByByte(t *testing.T) {
	all := mixed(mostFile)
	d := disk.New(mostFile + 1)
	for i := range all {
		if e := d.Append("a", all[i:i+1]); e != api.OK {
			t.Fatal(i, e)
		}
	}
	if e := d.Append("a", "x"); e != api.ErrLong {
		t.Error(e)
	}
	checkUp(t, d, row{"a", "", all})
}

func TestP10_2_Sync(t *testing.T) {
	b := roomy(t)
	for _, name := range []string{"a", "a", "!", "b", "c", "~"} {
		b.want(t, syncs(name), api.OK)
	}
	checkUp(t, b.d, row{"!", "", ""}, row{"a", "xyz12", ""}, row{"b", "only safe", ""}, row{"c", "only loose", ""}, row{"~", "s\x00\xff", ""})
	b.want(t, syncs("none"), api.ErrNone)
	b.want(t, appends("a", "3"), api.OK)
	checkRow(t, b.d, row{"a", "xyz12", "3"})
}

func TestP10_2_Cut(t *testing.T) {
	for n, want := range []row{{"a", "", ""}, {"a", "x", ""}, {"a", "xy", ""}, {"a", "xyz", ""}, {"a", "xyz", "1"}, {"a", "xyz", "12"}} {
		b := piled(t, plenty, row{"a", "xyz", "12"}, row{"b", "other", "one"})
		b.want(t, cuts("a", n), api.OK)
		checkUp(t, b.d, want, row{"b", "other", "one"})
		b.want(t, cuts("a", n+1), api.ErrArg)
		b.want(t, appends("a", "new"), api.OK)
		want.loose += "new"
		checkRow(t, b.d, want)
		b.want(t, syncs("a"), api.OK)
		b.want(t, cuts("a", n), api.OK)
		checkRow(t, b.d, row{"a", "xyz12"[:n], ""})
	}
}

// What was cut is cut: no Wake brings it back.
func TestP10_2_CutIsDurable(t *testing.T) {
	for n := range 6 {
		b := piled(t, plenty, row{"a", "xyz", "12"})
		b.do(t, cuts("a", n), crashes(), wakes(9))
		checkUp(t, b.d, row{"a", "xyz12"[:n], ""})
		b = piled(t, plenty, row{"a", "xyz", "12"})
		b.do(t, cuts("a", n), crashes(), wakes())
		checkUp(t, b.d, row{"a", "xyz"[:min(n, 3)], ""})
	}
}

func TestP10_2_CutErrors(t *testing.T) {
	b := roomy(t)
	for _, n := range []int{-1, -2, -5, math.MinInt32, math.MinInt} {
		for _, name := range []string{"a", "!", "none", "", " "} {
			b.want(t, cuts(name, n), api.ErrArg)
		}
	}
	for _, n := range []int{0, 1, 5, 6, math.MaxInt32, math.MaxInt} {
		for _, name := range []string{"none", "", " ", "a\x7f"} {
			b.want(t, cuts(name, n), api.ErrNone)
		}
	}
	for _, n := range []int{6, 7, 99, math.MaxInt32, math.MaxInt} {
		b.want(t, cuts("a", n), api.ErrArg)
		b.want(t, cuts("!", n), api.ErrArg)
	}
	b.want(t, cuts("!", 1), api.ErrArg)
	b.want(t, cuts("!", 0), api.OK)
	checkUp(t, b.d, few()...)
}

func TestP10_2_Rename(t *testing.T) {
	b := roomy(t)
	b.want(t, renames("a", "new"), api.OK)
	checkUp(t, b.d, row{"!", "", ""}, row{"b", "only safe", ""}, row{"c", "", "only loose"}, row{"new", "xyz", "12"}, row{"~", "s", "\x00\xff"})
	b.want(t, renames("a", "new"), api.ErrNone)
	b.want(t, renames("new", "b"), api.OK)
	checkUp(t, b.d, row{"!", "", ""}, row{"b", "xyz", "12"}, row{"c", "", "only loose"}, row{"~", "s", "\x00\xff"})
	b.want(t, renames("!", "c"), api.OK)
	checkUp(t, b.d, row{"b", "xyz", "12"}, row{"c", "", ""}, row{"~", "s", "\x00\xff"})
	b.want(t, renames("b", "b"), api.OK)
	b.want(t, renames("c", "c"), api.OK)
	checkUp(t, b.d, row{"b", "xyz", "12"}, row{"c", "", ""}, row{"~", "s", "\x00\xff"})
	// A file of the old name is another one.
	b.want(t, renames("b", "a"), api.OK)
	b.want(t, appends("b", "q"), api.OK)
	b.want(t, appends("a", "3"), api.OK)
	checkUp(t, b.d, row{"a", "xyz", "123"}, row{"b", "", "q"}, row{"c", "", ""}, row{"~", "s", "\x00\xff"})
}

func TestP10_2_RenameIsDurable(t *testing.T) {
	for _, to := range []string{"new", "a", "b", "!"} {
		b := roomy(t)
		b.do(t, renames("a", to), crashes(), wakes(9, 9, 9, 9, 9))
		checkRow(t, b.d, row{to, "xyz12", ""})
		b = roomy(t)
		b.do(t, renames("a", to), crashes(), wakes())
		checkRow(t, b.d, row{to, "xyz", ""})
		if to != "a" {
			checkNone(t, b.d, "a", api.ErrNone)
		}
	}
}

func TestP10_2_RenameErrors(t *testing.T) {
	b := roomy(t)
	for _, to := range []string{"a", "none", "other", "~"} {
		b.want(t, renames("none", to), api.ErrNone)
	}
	for _, name := range []string{"", " ", "a b", "\x7f", strings.Repeat("n", mostName+1)} {
		b.want(t, renames("a", name), api.ErrArg)
		b.want(t, renames("none", name), api.ErrArg)
		b.want(t, renames(name, "a"), api.ErrArg)
		b.want(t, renames(name, "none"), api.ErrArg)
		b.want(t, renames(name, name), api.ErrArg)
	}
	checkUp(t, b.d, few()...)
}

func TestP10_2_Remove(t *testing.T) {
	b := roomy(t)
	b.want(t, removes("a"), api.OK)
	checkUp(t, b.d, row{"!", "", ""}, row{"b", "only safe", ""}, row{"c", "", "only loose"}, row{"~", "s", "\x00\xff"})
	b.want(t, removes("a"), api.ErrNone)
	b.want(t, removes("!"), api.OK)
	b.want(t, removes("~"), api.OK)
	b.do(t, crashes(), wakes(10, 10, 10))
	checkUp(t, b.d, row{"b", "only safe", ""}, row{"c", "only loose", ""})
	// One that comes again begins anew.
	b.want(t, appends("a", "q"), api.OK)
	checkUp(t, b.d, row{"a", "", "q"}, row{"b", "only safe", ""}, row{"c", "only loose", ""})
	for _, name := range b.d.List() {
		b.want(t, removes(name), api.OK)
	}
	checkUp(t, b.d)
}

// Where two errors are due, the chapter's order tells which one it is.
func TestP10_2_OrderOfErrors(t *testing.T) {
	tooLong := mixed(mostFile + 1)
	b := piled(t, 9, row{"a", "123", "45"})
	b.want(t, appends("a b", tooLong), api.ErrArg)
	b.want(t, appends("", "0123456789"), api.ErrArg)
	b.want(t, appends("b", tooLong), api.ErrLong)
	b.want(t, appends("a", tooLong[6:]), api.ErrFull)
	b.want(t, appends("a", tooLong[5:]), api.ErrLong)
	b.want(t, appends("b", tooLong[1:]), api.ErrFull)
	b.want(t, appends("b", "56789"), api.ErrFull)
	// The power fails only at what is not refused.
	for _, c := range []struct {
		call call
		want api.Errno
	}{
		{appends("a b", ""), api.ErrArg},
		{appends("b", tooLong), api.ErrLong},
		{appends("b", "56789"), api.ErrFull},
		{syncs("b"), api.ErrNone},
		{cuts("a", -1), api.ErrArg},
		{cuts("b", -1), api.ErrArg},
		{cuts("b", 9), api.ErrNone},
		{cuts("a", 9), api.ErrArg},
		{renames("a", ""), api.ErrArg},
		{renames("", "a"), api.ErrArg},
		{renames("b", "a"), api.ErrNone},
		{removes("b"), api.ErrNone},
	} {
		b.do(t, fuses(1))
		b.want(t, c.call, c.want)
		if b.d.Down() {
			t.Errorf("%s: the power failed", c.call)
		}
	}
	b.want(t, syncs("a"), api.ErrDown)
}

// That the disk is down comes before whatever else is wrong.
func TestP10_2_Down(t *testing.T) {
	b := roomy(t)
	b.do(t, crashes())
	for _, c := range everyCall() {
		b.want(t, c, api.ErrDown)
	}
	b.do(t, wakes(9, 9, 9, 9, 9))
	b = roomy(t)
	b.do(t, fuses(1), syncs("a"))
	for _, c := range everyCall() {
		b.want(t, c, api.ErrDown)
	}
	checkDown(t, b.d, few()...)
}

func TestP10_3_ReadAndSafe(t *testing.T) {
	for _, f := range []row{{"a", "", ""}, {"a", "", "x"}, {"a", "x", ""}, {"a", "x", "y"}, {"a", "\x00", "\xff\x00"}, {"a", mixed(300), mixed(1)}, {"a", mixed(mostFile), ""}, {"a", "", mixed(mostFile)}, {"a", mixed(mostFile - 1), "x"}} {
		b := piled(t, plenty, f)
		for range 2 {
			checkUp(t, b.d, f)
		}
	}
	b := roomy(t)
	for _, name := range append(badNames(), "none", "A", "aa", "xyz") {
		checkNone(t, b.d, name, api.ErrNone)
	}
	b.do(t, crashes())
	for _, name := range append(badNames(), "none", "a", "!", "~") {
		checkNone(t, b.d, name, api.ErrDown)
	}
}

// What was read stays what it was.
func TestP10_3_ReadIsNewMemory(t *testing.T) {
	b := piled(t, plenty, row{"a", "0123456789", "abcdef"})
	s, _ := b.d.Read("a")
	other, _ := b.d.Read("a")
	if sharesMemory(s, other) {
		t.Error("what is read twice is no new memory")
	}
	b.do(t, cuts("a", 2), appends("a", "XXXXXXXXXXXXXX"), removes("a"), appends("a", "YYYYYYYYYYYYYYYY"), crashes(), wakes(9), appends("a", "ZZZZZZZZZZZZZZZZ"))
	if s != "0123456789abcdef" {
		t.Errorf("what was read is now %q", s)
	}
}

// sharesMemory tells whether some byte of one is, in memory, one of the other.
func sharesMemory(one, other string) bool {
	if one == "" || other == "" {
		return false
	}
	a, b := uintptr(unsafe.Pointer(unsafe.StringData(one))), uintptr(unsafe.Pointer(unsafe.StringData(other)))
	return a < b+uintptr(len(other)) && b < a+uintptr(len(one))
}

// Whoever may change the bytes behind a string that it handed in, or of a name that it got, changes no disk.
func TestP10_3_ArgumentsAreNotKept(t *testing.T) {
	b := newBoth(plenty)
	memory := []byte("a bytes of it")
	name, bytes := unsafe.String(&memory[0], 1), unsafe.String(&memory[2], 11)
	other := []byte("bc")
	from, to := unsafe.String(&other[0], 1), unsafe.String(&other[1], 1)
	b.d.Append(name, bytes)
	b.d.Append(name, "!")
	b.d.Append(from, "x")
	b.d.Rename(from, to)
	b.d.Append(from, "")
	b.d.Rename(from, from)
	b.d.Append("d", "y")
	b.d.Rename("d", to)
	c := b.d.Copy()
	copy(memory, "##############")
	copy(other, "##")
	for _, d := range []*disk.Disk{b.d, c} {
		checkUp(t, d, row{"a", "", "bytes of it!"}, row{"b", "", ""}, row{"c", "", "y"})
	}
}

func TestP10_3_ListIsNewMemory(t *testing.T) {
	b := roomy(t)
	name := "a name of some bytes"
	b.do(t, appends(name, "x"))
	l, other := b.d.List(), b.d.List()
	for i := range l {
		if sharesMemory(l[i], other[i]) || sharesMemory(l[i], name) {
			t.Errorf("%q is no new memory", l[i])
		}
	}
	clear(l[:cap(l)])
	b.check(t)
	b.do(t, crashes())
	l = b.d.List()
	clear(l[:cap(l)])
	b.do(t, wakes())
}

// At each kind of operation, and after each number of others, the power fails: an Append is done, any other is not.
func TestP10_4_FuseAtEachOperation(t *testing.T) {
	for _, c := range operations() {
		for n := 1; n <= 5; n++ {
			b := roomy(t)
			b.do(t, fuses(n))
			for range n - 1 {
				b.want(t, appends("b", "x"), api.OK)
			}
			was := b.r.copied()
			b.want(t, c, api.ErrDown)
			if strings.HasPrefix(c.what, "Append") {
				was.fuse = 0
				c.ref(was)
			}
			checkDown(t, b.d, was.rows...)
			// The fuse is spent.
			b.do(t, wakes(9, 9, 9, 9, 9, 9), syncs("b"), appends("b", "y"), appends("b", "z"), removes("b"))
			if b.d.Down() {
				t.Errorf("%s: the fuse is still set", c)
			}
		}
	}
}

func TestP10_4_FuseAtAppend(t *testing.T) {
	b := piled(t, plenty, row{"a", "xyz", ""})
	b.do(t, fuses(1))
	b.want(t, appends("a", "12"), api.ErrDown)
	checkDown(t, b.d, row{"a", "xyz", "12"})
	b.do(t, wakes(1))
	checkUp(t, b.d, row{"a", "xyz1", ""})
	// A file that is created then is there, whatever is kept of it.
	b.do(t, fuses(1))
	b.want(t, appends("b", "34"), api.ErrDown)
	checkDown(t, b.d, row{"a", "xyz1", ""}, row{"b", "", "34"})
	b.do(t, wakes())
	checkUp(t, b.d, row{"a", "xyz1", ""}, row{"b", "", ""})
	b.do(t, fuses(1))
	b.want(t, appends("c", ""), api.ErrDown)
	b.do(t, wakes())
	checkUp(t, b.d, row{"a", "xyz1", ""}, row{"b", "", ""}, row{"c", "", ""})
}

// Each operation counts, also one that changes nothing; no other call does.
func TestP10_4_WhatCounts(t *testing.T) {
	for _, c := range []call{appends("a", ""), appends("a", "x"), syncs("b"), cuts("a", 5), cuts("!", 0), renames("a", "a")} {
		b := roomy(t)
		b.do(t, fuses(3))
		b.want(t, c, api.OK)
		b.want(t, syncs("!"), api.OK)
		b.want(t, syncs("!"), api.ErrDown)
	}
	l := append(refused(), wakes(), wakes(1, 2, 3))
	for _, name := range []string{"a", "none", "", " "} {
		l = append(l, asks(name)...)
	}
	for _, n := range []int{1, 2, 3} {
		b := roomy(t)
		b.do(t, fuses(n))
		for range 2 {
			b.do(t, l...)
			b.d.Used()
			b.d.List()
			b.d.Down()
			b.d.Copy()
		}
		for range n - 1 {
			b.want(t, syncs("a"), api.OK)
		}
		b.want(t, syncs("a"), api.ErrDown)
	}
}

// holds tells how many operations are done till the power fails at one; most if it does not.
func holds(d *disk.Disk, most int) int {
	for i := range most {
		if d.Sync("a") != api.OK {
			return i
		}
	}
	return most
}

func TestP10_4_FuseIsSetAnew(t *testing.T) {
	const most = 50
	for _, c := range []struct {
		fuses []int
		want  int
	}{
		{nil, most},
		{[]int{1}, 0}, {[]int{2}, 1}, {[]int{20}, 19},
		{[]int{1, 5}, 4}, {[]int{5, 1}, 0}, {[]int{5, 5}, 4}, {[]int{9, 1, 3}, 2},
		{[]int{0}, most}, {[]int{-1}, most}, {[]int{math.MinInt}, most},
		{[]int{1, 0}, most}, {[]int{1, -1}, most}, {[]int{5, math.MinInt}, most}, {[]int{0, 3}, 2}, {[]int{-7, 1}, 0},
		{[]int{math.MaxInt}, most}, {[]int{math.MaxInt, 2}, 1},
	} {
		b := roomy(t)
		for _, n := range c.fuses {
			b.d.Fuse(n)
		}
		if n := holds(b.d, most); n != c.want {
			t.Errorf("Fuse of %v: %d operations are done, not %d", c.fuses, n, c.want)
		}
	}
	// Also while it burns.
	b := roomy(t)
	b.do(t, fuses(3), syncs("a"), fuses(3), syncs("a"), syncs("a"))
	b.want(t, syncs("a"), api.ErrDown)
	b = roomy(t)
	b.do(t, fuses(3), syncs("a"), syncs("a"), fuses(0), syncs("a"), syncs("a"), syncs("a"), fuses(2), syncs("a"))
	b.want(t, syncs("a"), api.ErrDown)
}

func TestP10_4_FuseWhileDown(t *testing.T) {
	for _, ahead := range [][]call{{crashes()}, {fuses(1), syncs("a")}, {fuses(2), appends("a", "x"), appends("a", "y")}, {fuses(9), crashes()}} {
		for _, n := range []int{1, 2, 0, -1, math.MaxInt} {
			b := roomy(t)
			b.do(t, ahead...)
			b.do(t, fuses(n), fuses(1), fuses(n), wakes())
			if n := holds(b.d, 9); n != 9 {
				t.Errorf("%v: %d operations are done", ahead, n)
			}
		}
	}
}

func TestP10_4_Crash(t *testing.T) {
	b := roomy(t)
	b.do(t, crashes())
	checkDown(t, b.d, few()...)
	b.do(t, crashes(), crashes())
	checkDown(t, b.d, few()...)
	b.do(t, wakes())
	checkUp(t, b.d, row{"!", "", ""}, row{"a", "xyz", ""}, row{"b", "only safe", ""}, row{"c", "", ""}, row{"~", "s", ""})
	// No fuse is left.
	for _, n := range []int{1, 2, 9} {
		b := roomy(t)
		b.do(t, fuses(n), crashes(), wakes())
		if n := holds(b.d, 20); n != 20 {
			t.Errorf("%d operations are done", n)
		}
	}
}

func TestP10_4_Wake(t *testing.T) {
	// Of the files of few 0, 2, 0, 10 and 2 bytes are loose.
	for _, c := range []struct {
		keep []int
		a    string
		c    string
		last string
	}{
		{nil, "xyz", "", "s"},
		{[]int{}, "xyz", "", "s"},
		{[]int{9}, "xyz", "", "s"},
		{[]int{0, 1}, "xyz1", "", "s"},
		{[]int{9, 2}, "xyz12", "", "s"},
		{[]int{9, 3}, "xyz12", "", "s"},
		{[]int{0, 0, 0, 4}, "xyz", "only", "s"},
		{[]int{-1, -1, -1, 10, -1}, "xyz", "only loose", "s"},
		{[]int{math.MinInt, math.MinInt, math.MinInt, math.MinInt, math.MinInt}, "xyz", "", "s"},
		{[]int{math.MaxInt, math.MaxInt, math.MaxInt, math.MaxInt, math.MaxInt}, "xyz12", "only loose", "s\x00\xff"},
		{[]int{0, 2, 0, 11, 1}, "xyz12", "only loose", "s\x00"},
		{[]int{0, 1, 0, 5, 2, 7, 8, 9}, "xyz1", "only ", "s\x00\xff"},
		{slices.Repeat([]int{1}, 1000), "xyz1", "o", "s\x00"},
	} {
		b := roomy(t)
		was := slices.Clone(c.keep)
		b.do(t, crashes(), wakes(c.keep...))
		checkUp(t, b.d, row{"!", "", ""}, row{"a", c.a, ""}, row{"b", "only safe", ""}, row{"c", c.c, ""}, row{"~", c.last, ""})
		if !slices.Equal(c.keep, was) {
			t.Errorf("Wake changed %v to %v", was, c.keep)
		}
		// All of it is safe now.
		b.do(t, crashes(), wakes())
		checkUp(t, b.d, row{"!", "", ""}, row{"a", c.a, ""}, row{"b", "only safe", ""}, row{"c", c.c, ""}, row{"~", c.last, ""})
	}
}

// The files are counted by their names' order, not by when they came.
func TestP10_4_WakeByName(t *testing.T) {
	b := newBoth(plenty)
	for _, name := range []string{"b", "ab", "~", "B", "a", "!"} {
		b.do(t, appends(name, "123456789"))
	}
	b.do(t, crashes(), wakes(1, 2, 3, 4, 5, 6))
	checkUp(t, b.d, row{"!", "1", ""}, row{"B", "12", ""}, row{"a", "123", ""}, row{"ab", "1234", ""}, row{"b", "12345", ""}, row{"~", "123456", ""})
}

// A disk that is up does not wake.
func TestP10_4_WakeWhileUp(t *testing.T) {
	b := newBoth(5)
	b.do(t, wakes(), wakes(1))
	b = roomy(t)
	b.do(t, fuses(2), wakes(), wakes(9, 9, 9, 9, 9))
	checkUp(t, b.d, few()...)
	b.want(t, syncs("!"), api.OK)
	b.want(t, syncs("!"), api.ErrDown)
	b.do(t, wakes(0, 1), wakes(0, 0), wakes())
	checkUp(t, b.d, row{"!", "", ""}, row{"a", "xyz1", ""}, row{"b", "only safe", ""}, row{"c", "", ""}, row{"~", "s", ""})
}

// A copy has all of a disk's state: whatever comes then, both answer the same.
func TestP10_5_SameState(t *testing.T) {
	for _, ahead := range [][]call{nil, {crashes()}, {fuses(1)}, {fuses(3), syncs("a")}, {fuses(1), appends("c", "more")}, {crashes(), wakes(0, 1)}, {removes("a")}} {
		b := roomy(t)
		b.do(t, ahead...)
		for _, c := range append(everyCall(), crashes(), wakes(), wakes(1, 1, 1, 1, 1), fuses(1), fuses(0)) {
			one := b.copied()
			one.do(t, c, syncs("b"), appends("b", "x"), appends("z", mixed(90)), syncs("b"), wakes(0, 1, 2, 3, 4))
			b.check(t)
		}
		b.copied().copied().do(t, wakes(), removes("b"), appends("b", "x"))
	}
}

// A copy and the disk that it was made of go on by themselves.
func TestP10_5_Independent(t *testing.T) {
	calls := append(operations(), crashes(), wakes(), fuses(1))
	for _, one := range calls {
		for _, other := range calls {
			d := roomy(t)
			c := d.copied()
			c.do(t, one)
			d.check(t)
			d.do(t, other)
			c.check(t)
			c.do(t, syncs("a"))
			d.check(t)
		}
	}
}

// What both append goes to room of their own, however much a file has grown ahead.
func TestP10_5_OwnBytes(t *testing.T) {
	for n := range 70 {
		d := newBoth(plenty)
		for range n {
			d.do(t, appends("a", "x"))
		}
		c := d.copied()
		d.do(t, appends("a", "d"), syncs("a"))
		c.do(t, appends("a", "c"))
		d.do(t, appends("a", "dd"))
		checkUp(t, d.d, row{"a", strings.Repeat("x", n) + "d", "dd"})
		checkUp(t, c.d, row{"a", "", strings.Repeat("x", n) + "c"})
		c.do(t, cuts("a", n/2), appends("a", mixed(100)))
		d.check(t)
	}
}

func TestP10_5_NoDisk(t *testing.T) {
	if c := (*disk.Disk)(nil).Copy(); c != nil {
		t.Error("a copy of nil is there")
	}
	if c := new(disk.Disk).Copy(); c != nil {
		t.Error("a copy of a disk that no call made is there")
	}
}

func TestP10_6_RefusedCallsChangeNothing(t *testing.T) {
	l := refused()
	for _, name := range []string{"none", "", " "} {
		l = append(l, asks(name)...)
	}
	for _, ahead := range [][]call{nil, {fuses(1)}, {fuses(2)}, {crashes()}} {
		b := roomy(t)
		b.do(t, ahead...)
		was := b.r.copied()
		for _, c := range l {
			if e := c.on(b.d); e == api.OK {
				t.Errorf("%s: OK", c)
			}
			if was.down {
				checkDown(t, b.d, few()...)
			} else {
				checkUp(t, b.d, few()...)
			}
		}
		// The fuse burns as if there had been none of them.
		both{b.d, was}.do(t, appends("a", ""), appends("a", ""), wakes())
	}
}

// alphabet are calls enough to bring two files, on a disk with room for six bytes, into any state.
func alphabet() []call {
	return []call{
		appends("a", ""), appends("a", "xy"), appends("b", "z12"), appends("b ", "x"),
		syncs("a"), syncs("b"),
		cuts("a", 0), cuts("a", 1), cuts("b", 2), cuts("b", -1),
		renames("a", "b"), renames("b", "a"), renames("a", "a"), renames("b", "c"),
		removes("a"), removes("b"),
		fuses(0), fuses(1), fuses(2),
		crashes(), wakes(), wakes(1), wakes(2, 1), wakes(-1, 9),
	}
}

// Each list of so many calls, with a copy made ahead of each of them.
func TestP10_6_EachListOfCalls(t *testing.T) {
	calls := alphabet()
	var try func(b both, left int)
	try = func(b both, left int) {
		for _, c := range calls {
			next := b.copied().do(t, c)
			if left > 1 && !t.Failed() {
				try(next, left-1)
			}
		}
		b.check(t)
	}
	try(newBoth(6), 3)
	ahead := piled(t, 12, row{"a", "xyz", "12"}, row{"b", "s", ""})
	try(ahead, 4)
	try(ahead.do(t, fuses(3)), 3)
}

// dice are numbers in an order that is always the same.
type dice uint64

// below is the next number, from 0 to n - 1.
func (d *dice) below(n int) int {
	*d = *d*6364136223846793005 + 1442695040888963407
	return int(uint64(*d) >> 33 % uint64(n))
}

// some is some call, on one of a few files.
func (d *dice) some() call {
	names := []string{"a", "b", "B", "ab", "!", "~~", strings.Repeat("n", mostName), ""}
	name := names[d.below(len(names))]
	switch d.below(14) {
	case 0, 1, 2, 3:
		return appends(name, mixed(d.below(9)*d.below(9)))
	case 4, 5:
		return syncs(name)
	case 6, 7:
		return cuts(name, d.below(80)-2)
	case 8:
		return renames(name, names[d.below(len(names))])
	case 9:
		return removes(name)
	case 10:
		return fuses(d.below(20))
	case 11:
		return crashes()
	}
	keep := make([]int, d.below(9))
	for i := range keep {
		keep[i] = d.below(90) - 9
	}
	return wakes(keep...)
}

func TestP10_6_AnyCalls(t *testing.T) {
	var d dice
	for range 300 {
		b := newBoth(d.below(400))
		for range 150 {
			if d.below(9) == 0 {
				other := b
				b = b.copied()
				other.do(t, d.some(), d.some())
			}
			b.do(t, d.some())
		}
	}
}

// After a Wake each file is a prefix of what it was, and has at least what was safe of it: by what the disk itself told.
func TestP10_6_Prefixes(t *testing.T) {
	var dice dice
	for range 2000 {
		d := disk.New(1000)
		for range 20 {
			if c := dice.some(); !d.Down() && c.what != "Crash" {
				c.on(d)
			}
		}
		if d.Down() {
			continue
		}
		was, safe := map[string]string{}, map[string]int{}
		for _, name := range d.List() {
			was[name], _ = d.Read(name)
			safe[name], _ = d.Safe(name)
		}
		names := d.List()
		d.Crash()
		d.Wake([]int{dice.below(30), dice.below(30), dice.below(30) - 9, dice.below(30)})
		if !slices.Equal(d.List(), names) {
			t.Fatalf("List is %q, not %q", d.List(), names)
		}
		for _, name := range names {
			s, e := d.Read(name)
			n, _ := d.Safe(name)
			if e != api.OK || !strings.HasPrefix(was[name], s) || len(s) < safe[name] || n != len(s) {
				t.Errorf("%q was %q with %d safe, is %q with %d safe", name, was[name], safe[name], s, n)
			}
		}
	}
}

func TestP10_6_Examples(t *testing.T) {
	b := newBoth(9)
	b.want(t, appends("a", "xyz"), api.OK)
	b.want(t, syncs("a"), api.OK)
	b.want(t, appends("a", "12"), api.OK)
	b.do(t, crashes(), wakes(1))
	checkUp(t, b.d, row{"a", "xyz1", ""})
	b.do(t, fuses(2))
	b.want(t, appends("a", "x"), api.OK)
	b.want(t, appends("a", "y"), api.ErrDown)
	checkDown(t, b.d, row{"a", "xyz1", "xy"})
	b.do(t, wakes(9))
	checkUp(t, b.d, row{"a", "xyz1xy", ""})
	b.want(t, appends("b", "0123456789"), api.ErrFull)
	b.want(t, appends("a b", "x"), api.ErrArg)
	b.want(t, cuts("z", 0), api.ErrNone)
	b.want(t, cuts("a", 99), api.ErrArg)
	checkUp(t, b.d, row{"a", "xyz1xy", ""})
}
