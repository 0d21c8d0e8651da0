package gather_test

import (
	"fmt"
	"math"
	"reflect"
	"slices"
	"strings"
	"testing"
	"unsafe"

	"posthouse/api"
	"posthouse/frame"
	"posthouse/gather"
)

// The limits as the chapter tells them.
const (
	mostBytes = 16384
	mostPiece = 4084
)

// The tracks, and the Types of segments, as the chapter tells them.
const (
	controls = 0
	commands = 1

	control = 0
	command = 1
	header  = 2
	body    = 3
)

// framed is a frame by its fields, the four flags as one number: 8 if First, 4 if Last, 2 if Begin, 1 if End.
func framed(flags int, kind, track uint8, channel uint16, payload string) api.Frame {
	return api.Frame{
		First: flags&8 != 0, Last: flags&4 != 0, Begin: flags&2 != 0, End: flags&1 != 0,
		Type: kind, Track: track, Channel: channel, Payload: payload,
	}
}

// seg is a segment.
func seg(kind uint8, payload string) api.Segment {
	return api.Segment{Type: kind, Payload: payload}
}

// assembled is an assembly.
func assembled(channel uint16, track uint8, l ...api.Segment) api.Assembly {
	return api.Assembly{Channel: channel, Track: track, Segments: l}
}

// show tells whatever it is in a line that is not too long.
func show(x any) string {
	s := fmt.Sprintf("%+q", fmt.Sprintf("%+v", x))
	return s[:min(len(s), 300)]
}

// mixed is so many bytes, unlike the ones of other lengths.
func mixed(n int) string {
	b := make([]byte, n)
	for i := range b {
		b[i] = byte(i*7 + i>>8 + n)
	}
	return string(b)
}

// bytesOf is how many bytes the payloads have together.
func bytesOf(a api.Assembly) int {
	n := 0
	for _, s := range a.Segments {
		n += len(s.Payload)
	}
	return n
}

// isValid tells whether a is valid: which lists of Types there may be on which track is written out.
func isValid(a api.Assembly) bool {
	var kinds []int
	for _, s := range a.Segments {
		kinds = append(kinds, int(s.Type))
	}
	what := fmt.Sprint(a.Track, kinds)
	right := []string{"0 [0]", "1 [1]", "1 [1 2]", "1 [1 3]", "1 [1 2 3]"}
	return slices.Contains(right, what) && bytesOf(a) <= mostBytes
}

// framesOf is the frames of a, made without the package.
func framesOf(a api.Assembly, most int) []api.Frame {
	var l []api.Frame
	for i, s := range a.Segments {
		count := max(1, (len(s.Payload)+most-1)/most)
		for n := range count {
			l = append(l, api.Frame{
				First: i == 0, Last: i+1 == len(a.Segments), Begin: n == 0, End: n+1 == count,
				Type: s.Type, Track: a.Track, Channel: a.Channel,
				Payload: s.Payload[n*most : min(len(s.Payload), (n+1)*most)],
			})
		}
	}
	return l
}

// same tells whether two assemblies are equal, where no segments are as good as nil.
func same(a, b api.Assembly) bool {
	return a.Channel == b.Channel && a.Track == b.Track && slices.Equal(a.Segments, b.Segments)
}

// edges are valid assemblies at the chapter's edges.
func edges() []api.Assembly {
	var l []api.Assembly
	sizes := []int{0, 1, 2, 3, 255, 256, mostPiece - 1, mostPiece, mostPiece + 1, 2 * mostPiece, 2*mostPiece + 1}
	for _, channel := range []uint16{0, 1, 255, 256, 65535} {
		for _, n := range append(sizes, mostBytes-1, mostBytes) {
			l = append(l, assembled(channel, controls, seg(control, mixed(n))), assembled(channel, commands, seg(command, mixed(n))))
		}
	}
	for _, n := range sizes {
		for _, m := range sizes {
			if n+m > mostBytes {
				continue
			}
			one, other := mixed(n), mixed(m)
			l = append(l, assembled(0, commands, seg(command, one), seg(header, other)), assembled(65535, commands, seg(command, one), seg(body, other)))
			if n+m < mostBytes {
				l = append(l, assembled(7, commands, seg(command, one), seg(header, "h"), seg(body, other)), assembled(7, commands, seg(command, ""), seg(header, one), seg(body, other)))
			}
		}
	}
	return append(l, greatest()...)
}

// greatest are valid assemblies that have as many bytes as there may be, in each way of sharing them out.
func greatest() []api.Assembly {
	all, most := mixed(mostBytes), mixed(mostBytes-2)
	l := []api.Assembly{
		assembled(9, controls, seg(control, all)),
		assembled(9, commands, seg(command, all)),
		assembled(9, commands, seg(command, all), seg(header, ""), seg(body, "")),
		assembled(9, commands, seg(command, ""), seg(header, all), seg(body, "")),
		assembled(9, commands, seg(command, ""), seg(header, ""), seg(body, all)),
		assembled(9, commands, seg(command, most), seg(header, "a"), seg(body, "b")),
		assembled(9, commands, seg(command, "a"), seg(header, most), seg(body, "b")),
		assembled(9, commands, seg(command, "a"), seg(header, "b"), seg(body, most)),
		assembled(9, commands, seg(command, all[:mostBytes/2]), seg(header, all[mostBytes/2:])),
		assembled(9, commands, seg(command, all[:1]), seg(body, all[1:])),
	}
	return l
}

// few are valid assemblies of each form, of few bytes.
func few() []api.Assembly {
	return []api.Assembly{
		assembled(1, commands, seg(command, "ab"), seg(body, "c")),
		assembled(0, controls, seg(control, "")),
		assembled(65535, controls, seg(control, "control")),
		assembled(0, commands, seg(command, "alone")),
		assembled(256, commands, seg(command, "c"), seg(header, "head")),
		assembled(65535, commands, seg(command, "put"), seg(header, "head"), seg(body, "\x00\xff body")),
		assembled(3, commands, seg(command, ""), seg(header, ""), seg(body, "")),
	}
}

// wrong are assemblies that are not valid.
func wrong() []api.Assembly {
	over := mixed(mostBytes + 1)
	l := []api.Assembly{
		{},
		{Track: commands},
		{Track: 2},
		assembled(0, controls, seg(control, "a"), seg(control, "b")),
		assembled(0, controls, seg(control, ""), seg(control, "")),
		assembled(0, controls, seg(control, ""), seg(command, "")),
		assembled(0, controls, seg(control, ""), seg(header, ""), seg(body, "")),
		assembled(0, controls, seg(control, ""), seg(body, "")),
		assembled(0, controls, seg(command, "")),
		assembled(0, commands, seg(control, "")),
		assembled(0, commands, seg(control, ""), seg(command, "")),
		assembled(0, commands, seg(header, "")),
		assembled(0, commands, seg(body, "")),
		assembled(0, commands, seg(header, ""), seg(body, "")),
		assembled(0, commands, seg(command, ""), seg(command, "")),
		assembled(0, commands, seg(command, ""), seg(body, ""), seg(header, "")),
		assembled(0, commands, seg(header, ""), seg(command, ""), seg(body, "")),
		assembled(0, commands, seg(command, ""), seg(header, ""), seg(header, "")),
		assembled(0, commands, seg(command, ""), seg(body, ""), seg(body, "")),
		assembled(0, commands, seg(command, ""), seg(header, ""), seg(body, ""), seg(body, "")),
		assembled(0, commands, seg(command, ""), seg(header, ""), seg(body, ""), seg(4, "")),
		assembled(0, commands, seg(command, ""), seg(4, "")),
		assembled(0, commands, seg(command, ""), seg(255, "")),
		{Track: commands, Segments: slices.Repeat([]api.Segment{seg(command, "")}, 1000)},
		{Track: controls, Segments: slices.Repeat([]api.Segment{seg(control, "")}, 1000)},
		// Too many bytes, in each way of sharing them out.
		assembled(0, controls, seg(control, over)),
		assembled(0, commands, seg(command, over)),
		assembled(0, commands, seg(command, ""), seg(header, over)),
		assembled(0, commands, seg(command, ""), seg(body, over)),
		assembled(0, commands, seg(command, ""), seg(header, ""), seg(body, over)),
		assembled(0, commands, seg(command, over[2:]), seg(header, "a"), seg(body, "b")),
		assembled(0, commands, seg(command, over[1:]), seg(header, ""), seg(body, "b")),
		assembled(0, commands, seg(command, "a"), seg(header, over[2:]), seg(body, "b")),
		assembled(0, commands, seg(command, "a"), seg(header, over[1:])),
		assembled(0, commands, seg(command, "a"), seg(body, over[1:])),
		assembled(0, commands, seg(command, strings.Repeat("x", 1<<20)), seg(header, strings.Repeat("y", 1<<20))),
	}
	for track := 2; track < 256; track++ {
		l = append(l, assembled(1, uint8(track), seg(control, "")), assembled(1, uint8(track), seg(command, ""), seg(body, "")))
	}
	return l
}

// checkCheck asks whether Check answers as the chapter words it, and Cut with it.
func checkCheck(t *testing.T, a api.Assembly) {
	t.Helper()
	want := api.ErrGather
	if isValid(a) {
		want = api.OK
	}
	if e := gather.Check(a); e != want {
		t.Errorf("Check of %s: %d, not %d", show(a), e, want)
	}
	for _, most := range []int{1, 2, mostPiece} {
		if want == api.OK {
			checkCut(t, a, most)
		} else {
			checkRefused(t, a, most, want)
		}
	}
}

func checkCut(t *testing.T, a api.Assembly, most int) {
	t.Helper()
	l, e := gather.Cut(a, most)
	if e != api.OK || !slices.Equal(l, framesOf(a, most)) {
		t.Errorf("Cut of %s to %d: %d frames, %s, %d", show(a), most, len(l), show(l), e)
	}
}

func checkRefused(t *testing.T, a api.Assembly, most int, want api.Errno) {
	t.Helper()
	if l, e := gather.Cut(a, most); len(l) != 0 || e != want {
		t.Errorf("Cut of %s to %d: %d frames, %s, %d, not %d", show(a), most, len(l), show(l), e, want)
	}
}

func TestP7_1_KnownFrames(t *testing.T) {
	ab := assembled(1, commands, seg(command, "ab"), seg(body, "c"))
	put := assembled(65535, commands, seg(command, "abc"), seg(header, ""), seg(body, "defg"))
	for _, c := range []struct {
		a    api.Assembly
		most int
		want []api.Frame
	}{
		{ab, 1, []api.Frame{framed(8+2, 1, 1, 1, "a"), framed(8+1, 1, 1, 1, "b"), framed(4+2+1, 3, 1, 1, "c")}},
		{ab, 2, []api.Frame{framed(8+2+1, 1, 1, 1, "ab"), framed(4+2+1, 3, 1, 1, "c")}},
		{ab, 3, []api.Frame{framed(8+2+1, 1, 1, 1, "ab"), framed(4+2+1, 3, 1, 1, "c")}},
		{put, 2, []api.Frame{
			framed(8+2, 1, 1, 65535, "ab"), framed(8+1, 1, 1, 65535, "c"),
			framed(2+1, 2, 1, 65535, ""),
			framed(4+2, 3, 1, 65535, "de"), framed(4+1, 3, 1, 65535, "fg"),
		}},
		{put, 1, []api.Frame{
			framed(8+2, 1, 1, 65535, "a"), framed(8, 1, 1, 65535, "b"), framed(8+1, 1, 1, 65535, "c"),
			framed(2+1, 2, 1, 65535, ""),
			framed(4+2, 3, 1, 65535, "d"), framed(4, 3, 1, 65535, "e"), framed(4, 3, 1, 65535, "f"), framed(4+1, 3, 1, 65535, "g"),
		}},
		{assembled(0, controls, seg(control, "")), 1, []api.Frame{framed(15, 0, 0, 0, "")}},
		{assembled(0, controls, seg(control, "ab")), 1, []api.Frame{framed(8+4+2, 0, 0, 0, "a"), framed(8+4+1, 0, 0, 0, "b")}},
		{assembled(5, commands, seg(command, "abc")), 1, []api.Frame{framed(8+4+2, 1, 1, 5, "a"), framed(8+4, 1, 1, 5, "b"), framed(8+4+1, 1, 1, 5, "c")}},
		{assembled(5, commands, seg(command, ""), seg(header, "ab")), 1, []api.Frame{framed(8+2+1, 1, 1, 5, ""), framed(4+2, 2, 1, 5, "a"), framed(4+1, 2, 1, 5, "b")}},
		{assembled(5, commands, seg(command, ""), seg(body, "")), mostPiece, []api.Frame{framed(8+2+1, 1, 1, 5, ""), framed(4+2+1, 3, 1, 5, "")}},
	} {
		if l, e := gather.Cut(c.a, c.most); e != api.OK || !slices.Equal(l, c.want) {
			t.Errorf("Cut of %s to %d: %s, %d", show(c.a), c.most, show(l), e)
		}
	}
}

func TestP7_1_Edges(t *testing.T) {
	for _, a := range append(edges(), few()...) {
		checkCheck(t, a)
		for _, most := range []int{3, 255, 256, 4095 - 12, 1000} {
			checkCut(t, a, most)
		}
	}
}

func TestP7_1_EachPieceSize(t *testing.T) {
	for most := 1; most <= mostPiece; most++ {
		for _, n := range []int{0, 1, most - 1, most, most + 1, 2*most - 1, 2 * most, 2*most + 1, 3 * most} {
			checkCut(t, assembled(uint16(most), commands, seg(command, "c"), seg(header, mixed(n))), most)
		}
		checkCut(t, assembled(9, commands, seg(command, mixed(most)), seg(header, ""), seg(body, mixed(mostBytes-most))), most)
	}
}

// Each list of up to four Types, on each track, with few bytes and with as many as there may be.
func TestP7_1_EachListOfTypes(t *testing.T) {
	kinds := []uint8{control, command, header, body, 4, 128, 255}
	lists := [][]api.Segment{nil}
	long := mixed(mostBytes + 1)
	valid := 0
	for n := range 5 {
		var longer [][]api.Segment
		for _, l := range lists {
			for _, track := range []uint8{controls, commands, 2, 3, 15, 16, 255} {
				a := assembled(6, track, l...)
				if isValid(a) {
					valid++
				}
				checkCheck(t, a)
				for i := range l {
					// The others have a byte each.
					for _, size := range []int{mostBytes - n + 1, mostBytes - n + 2} {
						some := slices.Clone(l)
						some[i].Payload = long[:size]
						checkCheck(t, assembled(6, track, some...))
					}
				}
			}
			for _, kind := range kinds {
				longer = append(longer, append(slices.Clone(l), seg(kind, "x")))
			}
		}
		lists = longer
	}
	if valid != 5 {
		t.Errorf("%d lists of Types are valid", valid)
	}
}

func TestP7_1_Wrong(t *testing.T) {
	for _, a := range wrong() {
		if e := gather.Check(a); e != api.ErrGather {
			t.Errorf("Check of %s: %d", show(a), e)
		}
		for _, most := range []int{1, 9, mostPiece - 1, mostPiece} {
			checkRefused(t, a, most, api.ErrGather)
		}
	}
}

func TestP7_1_WrongPieceSizes(t *testing.T) {
	for _, most := range []int{0, -1, -2, -mostPiece, mostPiece + 1, mostPiece + 2, 4096, mostBytes, math.MaxUint16 + 2, math.MaxInt32, math.MaxInt, math.MinInt32, math.MinInt} {
		for _, a := range append(few(), greatest()...) {
			checkRefused(t, a, most, api.ErrArg)
		}
		for _, a := range wrong() {
			checkRefused(t, a, most, api.ErrArg)
		}
	}
}

func TestP7_1_EachFrameIsValid(t *testing.T) {
	for _, a := range edges() {
		for _, most := range []int{1, mostPiece} {
			l, _ := gather.Cut(a, most)
			for _, f := range l {
				if e := frame.Check(f); e != api.OK {
					t.Errorf("of %s to %d: %s, %d", show(a), most, show(f), e)
				}
			}
		}
	}
}

func TestP7_1_ArgumentsStay(t *testing.T) {
	whole := []api.Segment{seg(command, "ab"), seg(header, "cd"), seg(body, "ef"), seg(7, "x")}
	was := slices.Clone(whole)
	for n := range len(whole) + 1 {
		a := api.Assembly{Channel: 3, Track: commands, Segments: whole[:n]}
		checkCheck(t, a)
		l, _ := gather.Cut(a, 1)
		clear(l[:cap(l)])
		if !slices.Equal(whole, was) {
			t.Errorf("Cut of %d segments changed %s", n, show(whole))
		}
		checkCheck(t, a)
	}
}

// sharesMemory tells whether some byte of one is, in memory, one of the other.
func sharesMemory(one, other string) bool {
	if one == "" || other == "" {
		return false
	}
	a, b := uintptr(unsafe.Pointer(unsafe.StringData(one))), uintptr(unsafe.Pointer(unsafe.StringData(other)))
	return a < b+uintptr(len(other)) && b < a+uintptr(len(one))
}

func TestP7_1_NewMemory(t *testing.T) {
	for _, n := range []int{1, 2, 255, mostPiece, mostBytes} {
		payload := mixed(n)
		for _, most := range []int{2, mostPiece} {
			one, _ := gather.Cut(assembled(0, controls, seg(control, payload)), most)
			other, _ := gather.Cut(assembled(0, controls, seg(control, payload)), most)
			for i, f := range one {
				if sharesMemory(f.Payload, payload) || sharesMemory(f.Payload, other[i].Payload) {
					t.Errorf("piece %d of %d bytes, cut to %d, is no new memory", i, n, most)
				}
			}
		}
	}
}

// reference is a Gather made from the chapter's words: it keeps the frames themselves.
type reference struct {
	dead bool
	on   map[[2]int][]api.Frame
}

func newReference() *reference { return &reference{on: map[[2]int][]api.Frame{}} }

func (r *reference) open() int {
	n := 0
	for _, l := range r.on {
		if len(l) > 0 && !r.dead {
			n++
		}
	}
	return n
}

// fits tells whether f fits behind the frames of its channel and track.
func (r *reference) fits(l []api.Frame, f api.Frame) bool {
	if f.Track != controls && f.Track != commands {
		return false
	}
	if len(l) == 0 {
		right := f.Track == controls && f.Type == control && f.Last || f.Track == commands && f.Type == command
		return right && f.First && f.Begin
	}
	first := l[0]
	for _, other := range l {
		if other.Begin {
			first = other
		}
	}
	if !l[len(l)-1].End {
		return !f.Begin && f.Type == first.Type && f.First == first.First && f.Last == first.Last
	}
	return f.Begin && !f.First && f.Type > first.Type
}

func (r *reference) feed(f api.Frame) (api.Assembly, bool, api.Errno) {
	if r.dead {
		return api.Assembly{}, false, api.ErrState
	}
	at := [2]int{int(f.Channel), int(f.Track)}
	l := r.on[at]
	n := len(f.Payload)
	for _, other := range l {
		n += len(other.Payload)
	}
	e := api.OK
	switch {
	case f.Type > 3 || f.Track > 15 || len(f.Payload) > mostPiece:
		e = api.ErrFrame
	case !r.fits(l, f):
		e = api.ErrGather
	case n > mostBytes:
		e = api.ErrLong
	}
	if e != api.OK {
		r.dead = true
		return api.Assembly{}, false, e
	}
	l = append(slices.Clip(l), f)
	r.on[at] = l
	if !f.Last || !f.End {
		return api.Assembly{}, false, api.OK
	}
	r.on[at] = nil
	a := assembled(f.Channel, f.Track)
	for _, f := range l {
		if f.Begin {
			a.Segments = append(a.Segments, seg(f.Type, ""))
		}
		a.Segments[len(a.Segments)-1].Payload += f.Payload
	}
	return a, true, api.OK
}

// checkFeed asks whether Feed answers so, and how many are open behind it.
func checkFeed(t *testing.T, g *gather.Gather, f api.Frame, want api.Assembly, wantIs bool, wantE api.Errno, open int) {
	t.Helper()
	a, is, e := g.Feed(f)
	if is != wantIs || e != wantE || !same(a, want) {
		t.Errorf("Feed of %s: %s, %v, %d; not %s, %v, %d", show(f), show(a), is, e, show(want), wantIs, wantE)
	}
	if !is && !reflect.DeepEqual(a, api.Assembly{}) {
		t.Errorf("Feed of %s: no assembly, but %s", show(f), show(a))
	}
	if is && (gather.Check(a) != api.OK || !isValid(a)) {
		t.Errorf("Feed of %s: %s is not valid", show(f), show(a))
	}
	if n := g.Open(); n != open {
		t.Errorf("Feed of %s: %d are open, not %d", show(f), n, open)
	}
}

// both is a Gather beside a reference.
type both struct {
	g *gather.Gather
	r *reference
}

func newBoth() both { return both{gather.New(), newReference()} }

// feed feeds both of them, and asks whether they answer the same.
func (b both) feed(t *testing.T, l ...api.Frame) {
	t.Helper()
	for _, f := range l {
		a, is, e := b.r.feed(f)
		checkFeed(t, b.g, f, a, is, e, b.r.open())
	}
}

// checkDead asks whether any frame is refused.
func checkDead(t *testing.T, g *gather.Gather) {
	t.Helper()
	for _, f := range []api.Frame{
		{},
		framed(15, control, controls, 0, ""),
		framed(15, command, commands, 1, "a"),
		framed(8+2, command, commands, 65535, "a"),
		framed(4+1, body, commands, 1, "a"),
		framed(15, body, commands, 1, "a"),
		framed(15, 4, 16, 1, ""),
		framed(15, command, commands, 1, mixed(mostPiece+1)),
		framed(15, command, commands, 1, mixed(mostPiece)),
	} {
		checkFeed(t, g, f, api.Assembly{}, false, api.ErrState, 0)
	}
}

// checkDies asks whether a Gather that has taken those frames refuses f with that error, and anything else then.
func checkDies(t *testing.T, ahead []api.Frame, f api.Frame, e api.Errno) {
	t.Helper()
	b := newBoth()
	b.feed(t, ahead...)
	checkFeed(t, b.g, f, api.Assembly{}, false, e, 0)
	checkDead(t, b.g)
	checkFeed(t, b.g, f, api.Assembly{}, false, api.ErrState, 0)
}

// alike are frames with all flags, and with those Types, on those tracks and channels.
func alike(kinds, tracks []uint8, channels ...uint16) []api.Frame {
	var l []api.Frame
	for flags := range 16 {
		for _, kind := range kinds {
			for _, track := range tracks {
				for _, channel := range channels {
					l = append(l, framed(flags, kind, track, channel, "x"))
				}
			}
		}
	}
	return l
}

// all are frames with all flags, Types and tracks that matter, on those channels.
func all(channels ...uint16) []api.Frame {
	return alike([]uint8{0, 1, 2, 3, 4, 255}, []uint8{0, 1, 2, 3, 15, 16, 17, 255}, channels...)
}

// starts are frames that a Gather takes, one after the other, so that it is in each state that matters.
func starts() [][]api.Frame {
	l := [][]api.Frame{
		nil,
		// Nothing is open any more.
		{framed(15, control, controls, 5, "")},
		{framed(15, command, commands, 5, "a")},
		{framed(8+2+1, command, commands, 5, "a"), framed(4+2+1, body, commands, 5, "b")},
		// The last segment is incomplete.
		{framed(8+4+2, control, controls, 5, "a")},
		{framed(8+4+2, control, controls, 5, "a"), framed(8+4, control, controls, 5, "")},
		{framed(8+4+2, command, commands, 5, "")},
		{framed(8+2, command, commands, 5, "a")},
		{framed(8+2, command, commands, 5, "a"), framed(8, command, commands, 5, "b")},
		{framed(8+2+1, command, commands, 5, "a"), framed(2, header, commands, 5, "b")},
		{framed(8+2+1, command, commands, 5, "a"), framed(4+2, header, commands, 5, "b")},
		{framed(8+2+1, command, commands, 5, "a"), framed(2, body, commands, 5, "b")},
		{framed(8+2+1, command, commands, 5, "a"), framed(4+2, body, commands, 5, "b")},
		{framed(8+2+1, command, commands, 5, "a"), framed(2+1, header, commands, 5, ""), framed(4+2, body, commands, 5, "b"), framed(4, body, commands, 5, "b")},
		// The last segment is complete.
		{framed(8+2+1, command, commands, 5, "a")},
		{framed(8+2, command, commands, 5, "a"), framed(8+1, command, commands, 5, "b")},
		{framed(8+2+1, command, commands, 5, ""), framed(2+1, header, commands, 5, "b")},
		{framed(8+2+1, command, commands, 5, ""), framed(2, header, commands, 5, "b"), framed(1, header, commands, 5, "")},
		{framed(8+2+1, command, commands, 5, ""), framed(2+1, body, commands, 5, "b")},
		{framed(8+2+1, command, commands, 5, ""), framed(2+1, header, commands, 5, "b"), framed(2+1, body, commands, 5, "b")},
	}
	// The same beside what is open on other channels, and on both tracks of this one.
	for _, one := range slices.Clone(l[1:]) {
		others := []api.Frame{framed(8+2+1, command, commands, 6, "o"), framed(8+4+2, control, controls, 6, "o")}
		l = append(l, append(others, one...))
		if one[0].Track == commands {
			l = append(l, append([]api.Frame{framed(8+4+2, control, controls, 5, "c")}, one...))
		} else {
			l = append(l, append([]api.Frame{framed(8+2, command, commands, 5, "c")}, one...))
		}
	}
	return l
}

func TestP7_2_New(t *testing.T) {
	for range 3 {
		g := gather.New()
		if g == nil || g.Open() != 0 {
			t.Fatal("New returned", g)
		}
		checkFeed(t, g, framed(15, control, controls, 1, "ab"), assembled(1, controls, seg(control, "ab")), true, api.OK, 0)
	}
}

// Gathers know nothing of one another.
func TestP7_2_SeveralGathers(t *testing.T) {
	one, other := gather.New(), gather.New()
	checkFeed(t, one, framed(8+2, command, commands, 1, "one"), api.Assembly{}, false, api.OK, 1)
	checkFeed(t, other, framed(8+4+2, command, commands, 1, "other"), api.Assembly{}, false, api.OK, 1)
	checkFeed(t, other, framed(8+4+2, control, controls, 2, ""), api.Assembly{}, false, api.OK, 2)
	checkFeed(t, one, framed(15, body, commands, 1, ""), api.Assembly{}, false, api.ErrGather, 0)
	checkDead(t, one)
	if gather.New().Open() != 0 || other.Open() != 2 {
		t.Error("a dead Gather has changed another one")
	}
	checkFeed(t, other, framed(8+4+1, command, commands, 1, "!"), assembled(1, commands, seg(command, "other!")), true, api.OK, 1)
}

func TestP7_2_NoGather(t *testing.T) {
	var none *gather.Gather
	for _, g := range []*gather.Gather{none, {}, new(gather.Gather)} {
		for range 2 {
			for _, f := range append(all(0, 5), framed(15, command, commands, 1, mixed(mostPiece+1))) {
				checkFeed(t, g, f, api.Assembly{}, false, api.ErrNil, 0)
			}
		}
	}
}

func TestP7_2_Known(t *testing.T) {
	g := gather.New()
	checkFeed(t, g, framed(8+2, command, commands, 1, "a"), api.Assembly{}, false, api.OK, 1)
	checkFeed(t, g, framed(8+1, command, commands, 1, "b"), api.Assembly{}, false, api.OK, 1)
	checkFeed(t, g, framed(4+2+1, body, commands, 1, "c"), assembled(1, commands, seg(command, "ab"), seg(body, "c")), true, api.OK, 0)
	checkFeed(t, g, framed(15, control, controls, 1, ""), assembled(1, controls, seg(control, "")), true, api.OK, 0)
	checkFeed(t, g, framed(15, command, commands, 65535, "x"), assembled(65535, commands, seg(command, "x")), true, api.OK, 0)
	checkFeed(t, g, framed(8+4+2, control, controls, 0, "a"), api.Assembly{}, false, api.OK, 1)
	checkFeed(t, g, framed(8+2+1, command, commands, 0, "b"), api.Assembly{}, false, api.OK, 2)
	checkFeed(t, g, framed(2, header, commands, 0, ""), api.Assembly{}, false, api.OK, 2)
	checkFeed(t, g, framed(1, header, commands, 0, "c"), api.Assembly{}, false, api.OK, 2)
	checkFeed(t, g, framed(8+4, control, controls, 0, ""), api.Assembly{}, false, api.OK, 2)
	checkFeed(t, g, framed(4+2, body, commands, 0, "d"), api.Assembly{}, false, api.OK, 2)
	checkFeed(t, g, framed(8+4+1, control, controls, 0, "z"), assembled(0, controls, seg(control, "az")), true, api.OK, 1)
	checkFeed(t, g, framed(4+1, body, commands, 0, ""), assembled(0, commands, seg(command, "b"), seg(header, "c"), seg(body, "d")), true, api.OK, 0)
	checkFeed(t, g, framed(8+2, body, commands, 0, ""), api.Assembly{}, false, api.ErrGather, 0)
	checkDead(t, g)
}

// A body of which no frame is Last fits, though nothing fits behind it.
func TestP7_2_NothingBehindABody(t *testing.T) {
	ahead := []api.Frame{framed(8+2+1, command, commands, 1, ""), framed(2, body, commands, 1, ""), framed(1, body, commands, 1, "")}
	for flags := range 16 {
		for kind := range uint8(4) {
			checkDies(t, ahead, framed(flags, kind, commands, 1, ""), api.ErrGather)
		}
	}
}

func TestP7_2_FramesNotValid(t *testing.T) {
	over := mixed(mostPiece + 1)
	for _, ahead := range starts() {
		for _, f := range []api.Frame{
			framed(15, 4, commands, 5, ""),
			framed(15, 255, controls, 5, ""),
			framed(15, command, 16, 5, ""),
			framed(0, 4, 255, 5, over),
			framed(15, control, controls, 5, over),
			framed(15, command, commands, 5, over),
			framed(8, command, commands, 5, over),
			framed(4+2+1, body, commands, 5, over),
			framed(0, header, commands, 5, mixed(mostBytes+1)),
			framed(0, 4, commands, 5, ""),
		} {
			checkDies(t, ahead, f, api.ErrFrame)
		}
	}
}

// Each frame, in each state that matters, and what becomes of each frame behind it.
func TestP7_2_AsWorded(t *testing.T) {
	fitting, wrong := 0, 0
	for _, ahead := range starts() {
		for _, f := range all(5, 6, 7) {
			b := newBoth()
			b.feed(t, ahead...)
			b.feed(t, f)
			if b.r.dead {
				wrong++
				checkDead(t, b.g)
				continue
			}
			fitting++
			for _, next := range alike([]uint8{0, 1, 2, 3}, []uint8{0, 1, 2}, f.Channel) {
				fork := newBoth()
				fork.feed(t, ahead...)
				fork.feed(t, f, next)
			}
		}
	}
	if fitting < 100 || wrong < 1000 {
		t.Errorf("%d frames fitted, %d did not", fitting, wrong)
	}
}

func TestP7_2_EachWayNotToFit(t *testing.T) {
	begun := []api.Frame{framed(8+2, command, commands, 5, "a")}
	last := []api.Frame{framed(8+2+1, command, commands, 5, "a"), framed(4+2, header, commands, 5, "a")}
	whole := []api.Frame{framed(8+2+1, command, commands, 5, "a")}
	headed := append(slices.Clip(whole), framed(2+1, header, commands, 5, "b"))
	half := []api.Frame{framed(8+4+2, control, controls, 5, "a")}
	for _, c := range []struct {
		ahead []api.Frame
		f     api.Frame
	}{
		// Nothing is open.
		{nil, framed(8+4+1, control, controls, 5, "")},
		{nil, framed(4+2+1, control, controls, 5, "")},
		{nil, framed(8+2+1, control, controls, 5, "")},
		{nil, framed(8+2, control, controls, 5, "")},
		{nil, framed(15, command, controls, 5, "")},
		{nil, framed(15, header, controls, 5, "")},
		{nil, framed(15, body, controls, 5, "")},
		{nil, framed(8+4+1, command, commands, 5, "")},
		{nil, framed(4+2+1, command, commands, 5, "")},
		{nil, framed(15, control, commands, 5, "")},
		{nil, framed(15, header, commands, 5, "")},
		{nil, framed(8+2, body, commands, 5, "")},
		{nil, framed(15, control, 2, 5, "")},
		{nil, framed(15, command, 2, 5, "")},
		{nil, framed(15, command, 15, 5, "")},
		// Something is open on other tracks and channels alone.
		{begun, framed(8+1, command, commands, 6, "")},
		{begun, framed(8+1, command, controls, 5, "")},
		{begun, framed(8+1, command, commands, 5+256, "")},
		{whole, framed(4+2+1, body, commands, 6, "")},
		{half, framed(8+4+1, control, commands, 5, "")},
		{half, framed(8+4+1, control, controls, 4, "")},
		// The last segment is incomplete.
		{begun, framed(8+2, command, commands, 5, "")},
		{begun, framed(8+2+1, command, commands, 5, "")},
		{begun, framed(1, command, commands, 5, "")},
		{begun, framed(8+4+1, command, commands, 5, "")},
		{begun, framed(8+1, header, commands, 5, "")},
		{begun, framed(8+1, control, commands, 5, "")},
		{begun, framed(2+1, header, commands, 5, "")},
		{last, framed(1, header, commands, 5, "")},
		{last, framed(8+4+1, header, commands, 5, "")},
		{last, framed(4+2+1, header, commands, 5, "")},
		{last, framed(4+1, body, commands, 5, "")},
		{last, framed(8+1, command, commands, 5, "")},
		{half, framed(8+1, control, controls, 5, "")},
		{half, framed(4+1, control, controls, 5, "")},
		{half, framed(15, control, controls, 5, "")},
		{half, framed(8+4+1, command, controls, 5, "")},
		// The last segment is complete.
		{whole, framed(4+1, body, commands, 5, "")},
		{whole, framed(8+1, command, commands, 5, "")},
		{whole, framed(8+4+2+1, body, commands, 5, "")},
		{whole, framed(4+2+1, command, commands, 5, "")},
		{whole, framed(4+2+1, control, commands, 5, "")},
		{whole, framed(15, command, commands, 5, "")},
		{headed, framed(4+2+1, header, commands, 5, "")},
		{headed, framed(4+2+1, command, commands, 5, "")},
		{headed, framed(8+2+1, body, commands, 5, "")},
		{headed, framed(4+1, body, commands, 5, "")},
		{headed, framed(1, header, commands, 5, "")},
	} {
		checkDies(t, c.ahead, c.f, api.ErrGather)
	}
}

// full are frames that have brought as many bytes as there may be, in some way, to channel 5, where an assembly is still open.
func full() [][]api.Frame {
	var l [][]api.Frame
	for _, sizes := range [][]int{{mostBytes, 0, 0}, {0, mostBytes, 0}, {1, mostBytes - 1, 0}, {0, 0, mostBytes}, {mostBytes - 2, 1, 1}, {5000, 6000, 5384}, {8192, 0, 8192}} {
		a := assembled(5, commands, seg(command, mixed(sizes[0])), seg(header, mixed(sizes[1])), seg(body, mixed(sizes[2])))
		for _, most := range []int{1000, 2048, mostPiece} {
			frames := framesOf(a, most)
			frames[len(frames)-1].End = false
			l = append(l, frames)
		}
	}
	return l
}

func TestP7_2_TooManyBytes(t *testing.T) {
	for _, ahead := range full() {
		checkDies(t, ahead, framed(4+1, body, commands, 5, "x"), api.ErrLong)
		checkDies(t, ahead, framed(4, body, commands, 5, "x"), api.ErrLong)
		checkDies(t, ahead, framed(4, body, commands, 5, mixed(mostPiece)), api.ErrLong)
		// Too many bytes, but what is wrong beside is told first.
		checkDies(t, ahead, framed(4+2, body, commands, 5, "x"), api.ErrGather)
		checkDies(t, ahead, framed(4+1, header, commands, 5, "x"), api.ErrGather)
		checkDies(t, ahead, framed(1, body, commands, 5, mixed(mostPiece)), api.ErrGather)
		checkDies(t, ahead, framed(4, body, commands, 5, mixed(mostPiece+1)), api.ErrFrame)
		checkDies(t, ahead, framed(4, 4, commands, 5, "x"), api.ErrFrame)
	}
}

// An assembly that has as many bytes as there may be takes frames of none, and what is on other channels and tracks is not counted with it.
func TestP7_2_NoByteTooMany(t *testing.T) {
	for _, ahead := range full() {
		b := newBoth()
		b.feed(t, ahead...)
		b.feed(t, framed(4, body, commands, 5, ""), framed(4, body, commands, 5, ""))
		b.feed(t, framesOf(assembled(5, controls, seg(control, mixed(mostBytes))), mostPiece)...)
		b.feed(t, framesOf(assembled(6, commands, seg(command, mixed(mostBytes))), mostPiece)...)
		b.feed(t, framed(4+1, body, commands, 5, ""))
		if b.r.dead || b.g.Open() != 0 {
			t.Error("the assembly is not complete")
		}
		// The next one there has all of its bytes.
		b.feed(t, ahead...)
		b.feed(t, framed(4+1, body, commands, 5, ""), framed(15, command, commands, 5, mixed(mostPiece)))
		if b.r.dead || b.g.Open() != 0 {
			t.Error("the second assembly is not complete")
		}
	}
}

// The last frame that is too long is one of any size, in any segment.
func TestP7_2_TooManyBytesAtOnce(t *testing.T) {
	for size := 1; size <= mostPiece; size += 37 {
		most := mostBytes - size
		for _, a := range []api.Assembly{
			assembled(5, controls, seg(control, mixed(most))),
			assembled(5, commands, seg(command, mixed(most))),
			assembled(5, commands, seg(command, mixed(most/2)), seg(header, mixed(most-most/2))),
			assembled(5, commands, seg(command, ""), seg(header, ""), seg(body, mixed(most))),
		} {
			ahead := framesOf(a, mostPiece)
			ahead[len(ahead)-1].End = false
			next := ahead[len(ahead)-1]
			next.Begin, next.End, next.Payload = false, true, mixed(size)
			b := newBoth()
			b.feed(t, ahead...)
			b.feed(t, next)
			if b.r.dead || b.g.Open() != 0 {
				t.Errorf("%d bytes and %d: not complete", most, size)
			}
			b = newBoth()
			b.feed(t, ahead...)
			if size < mostPiece {
				next.Payload += "x"
				b.feed(t, next)
				checkDead(t, b.g)
			}
		}
	}
}

// A segment's first frame may itself bring too many bytes.
func TestP7_2_TooManyBytesAtABegin(t *testing.T) {
	ahead := framesOf(assembled(5, commands, seg(command, mixed(mostBytes)), seg(body, "")), mostPiece)
	ahead = ahead[:len(ahead)-1]
	for flags := range 16 {
		for _, kind := range []uint8{header, body} {
			f := framed(flags, kind, commands, 5, "x")
			if f.Begin && !f.First {
				checkDies(t, ahead, f, api.ErrLong)
			} else {
				checkDies(t, ahead, f, api.ErrGather)
			}
		}
	}
	b := newBoth()
	b.feed(t, ahead...)
	b.feed(t, framed(4+2+1, body, commands, 5, ""))
	if b.r.dead || b.g.Open() != 0 {
		t.Error("a body of no byte did not complete the assembly")
	}
}

// Frames of no byte may be there in any number.
func TestP7_2_ManyEmptyFrames(t *testing.T) {
	g := gather.New()
	checkFeed(t, g, framed(8+2, command, commands, 1, ""), api.Assembly{}, false, api.OK, 1)
	for range 100000 {
		checkFeed(t, g, framed(8, command, commands, 1, ""), api.Assembly{}, false, api.OK, 1)
	}
	checkFeed(t, g, framed(8+1, command, commands, 1, "a"), api.Assembly{}, false, api.OK, 1)
	checkFeed(t, g, framed(4+2+1, header, commands, 1, ""), assembled(1, commands, seg(command, "a"), seg(header, "")), true, api.OK, 0)
}

func TestP7_2_SecondAssembly(t *testing.T) {
	for _, one := range few() {
		for _, other := range few() {
			b := newBoth()
			for _, a := range []api.Assembly{one, other, one, one} {
				a.Channel = 77
				b.feed(t, framesOf(a, 2)...)
				if b.r.dead || b.g.Open() != 0 {
					t.Errorf("%s behind %s: not complete", show(other), show(one))
				}
			}
		}
	}
}

// What was returned is its receiver's, its spare memory included.
func TestP7_2_NewMemory(t *testing.T) {
	g := gather.New()
	a := assembled(1, commands, seg(command, "ab"), seg(header, "cd"), seg(body, "ef"))
	feed := func(frames []api.Frame) (got api.Assembly) {
		for _, f := range frames {
			got, _, _ = g.Feed(f)
		}
		return got
	}
	b := a
	b.Channel = 2
	others := framesOf(b, 1)
	feed(others[:4])
	one := feed(framesOf(a, 1))
	other := feed(framesOf(a, 1))
	clear(other.Segments[:cap(other.Segments)])
	third := feed(framesOf(a, 1))
	if !same(one, a) || !same(third, a) {
		t.Errorf("results share memory: %s, %s", show(one), show(third))
	}
	clear(one.Segments[:cap(one.Segments)])
	if got := feed(others[4:]); !same(got, b) || !same(third, a) {
		t.Errorf("results share memory: %s, %s", show(got), show(third))
	}
}

// dice are numbers that are always the same ones.
type dice uint64

// below is the next number, from 0 to n - 1.
func (d *dice) below(n int) int {
	*d = *d*6364136223846793005 + 1442695040888963407
	return int(uint64(*d) >> 33 % uint64(n))
}

// some is a frame that may fit or not, on one of few channels and tracks: mostly one that fits.
func (d *dice) some(r *reference) api.Frame {
	payload := mixed(d.below(9) * d.below(9))
	if d.below(3) == 0 {
		payload = mixed(mostPiece - d.below(3))
	}
	for {
		f := framed(d.below(16), uint8(d.below(4)), uint8(d.below(2)), uint16(d.below(4)*255), payload)
		// Fewer segments end than not, so that there is time to bring too many bytes.
		if f.End && d.below(3) != 0 {
			continue
		}
		if d.below(5000) == 0 || r.fits(r.on[[2]int{int(f.Channel), int(f.Track)}], f) {
			return f
		}
	}
}

// Long streams of frames, most of which fit.
func TestP7_2_StreamsAsWorded(t *testing.T) {
	var d dice
	told := map[api.Errno]int{}
	taken := 0
	for range 300 {
		b := newBoth()
		for n := 0; n < 300 && !b.r.dead; n++ {
			f := d.some(b.r)
			a, is, e := b.r.feed(f)
			checkFeed(t, b.g, f, a, is, e, b.r.open())
			told[e]++
			if is {
				taken++
			}
		}
		if b.r.dead {
			checkDead(t, b.g)
		}
	}
	if told[api.ErrGather] < 100 || told[api.ErrLong] < 10 || taken < 1000 {
		t.Errorf("told %v, %d assemblies", told, taken)
	}
}

func TestP7_3_Open(t *testing.T) {
	var none *gather.Gather
	if none.Open() != 0 || new(gather.Gather).Open() != 0 || gather.New().Open() != 0 {
		t.Error("something is open where nothing was fed")
	}
	g := gather.New()
	open := 0
	for _, channel := range []uint16{0, 1, 2, 255, 256, 257, 511, 512, 65279, 65280, 65534, 65535} {
		open++
		checkFeed(t, g, framed(8+4+2, control, controls, channel, "c"), api.Assembly{}, false, api.OK, open)
		open++
		checkFeed(t, g, framed(8+2+1, command, commands, channel, "d"), api.Assembly{}, false, api.OK, open)
		// More of what is open, and what is complete at once, leaves it as it is.
		checkFeed(t, g, framed(8+4, control, controls, channel, "c"), api.Assembly{}, false, api.OK, open)
		checkFeed(t, g, framed(2, header, commands, channel, "d"), api.Assembly{}, false, api.OK, open)
		checkFeed(t, g, framed(15, control, controls, channel^8, ""), assembled(channel^8, controls, seg(control, "")), true, api.OK, open)
	}
	for _, channel := range []uint16{65535, 0, 256} {
		open--
		checkFeed(t, g, framed(8+4+1, control, controls, channel, ""), assembled(channel, controls, seg(control, "cc")), true, api.OK, open)
		checkFeed(t, g, framed(1, header, commands, channel, "e"), api.Assembly{}, false, api.OK, open)
		open--
		checkFeed(t, g, framed(4+2+1, body, commands, channel, ""), assembled(channel, commands, seg(command, "d"), seg(header, "de"), seg(body, "")), true, api.OK, open)
	}
	if g.Open() != open || g.Open() != open {
		t.Errorf("%d are open, not %d", g.Open(), open)
	}
	checkFeed(t, g, framed(15, command, 2, 65000, ""), api.Assembly{}, false, api.ErrGather, 0)
	checkDead(t, g)
}

// All channels and tracks at once.
func TestP7_3_AllOpen(t *testing.T) {
	g := gather.New()
	open := 0
	for channel := range 1 << 16 {
		open++
		checkFeed(t, g, framed(8+4+2, control, controls, uint16(channel), fmt.Sprint("c", channel)), api.Assembly{}, false, api.OK, open)
		open++
		checkFeed(t, g, framed(8+2+1, command, commands, uint16(channel), fmt.Sprint("d", channel)), api.Assembly{}, false, api.OK, open)
	}
	if open != 1<<17 {
		t.Fatal(open)
	}
	for n := range 1 << 16 {
		channel := uint16(n * 40503)
		open--
		checkFeed(t, g, framed(4+2+1, body, commands, channel, "b"), assembled(channel, commands, seg(command, fmt.Sprint("d", channel)), seg(body, "b")), true, api.OK, open)
	}
	for n := range 1 << 16 {
		channel := ^uint16(n)
		open--
		checkFeed(t, g, framed(8+4+1, control, controls, channel, ""), assembled(channel, controls, seg(control, fmt.Sprint("c", channel))), true, api.OK, open)
	}
}

// checkBack asks whether the frames that Cut makes of an assembly give it back with the last of them, and not before.
func checkBack(t *testing.T, g *gather.Gather, a api.Assembly, most int) {
	t.Helper()
	l, e := gather.Cut(a, most)
	if e != api.OK || len(l) == 0 {
		t.Fatalf("Cut of %s to %d: %d frames, %d", show(a), most, len(l), e)
	}
	last := len(l) - 1
	for _, f := range l[:last] {
		checkFeed(t, g, f, api.Assembly{}, false, api.OK, 1)
	}
	checkFeed(t, g, l[last], a, true, api.OK, 0)
}

func TestP7_4_ThereAndBack(t *testing.T) {
	g := gather.New()
	for i, a := range append(few(), edges()...) {
		for _, most := range []int{1 + i%7, 255, 256, 2048, mostPiece - 1, mostPiece} {
			checkBack(t, g, a, most)
		}
	}
	for _, a := range append(few(), greatest()...) {
		checkBack(t, g, a, 1)
	}
}

// together are assemblies each of which is on a channel and track of its own.
func together() []api.Assembly {
	return []api.Assembly{
		assembled(0, controls, seg(control, "first control")),
		assembled(0, commands, seg(command, "put"), seg(header, "head of it"), seg(body, mixed(60))),
		assembled(1, controls, seg(control, mixed(40))),
		assembled(1, commands, seg(command, "alone")),
		assembled(256, commands, seg(command, "abcdef"), seg(body, "g")),
		assembled(255, commands, seg(command, ""), seg(header, mixed(30))),
		assembled(65535, controls, seg(control, "")),
		assembled(65535, commands, seg(command, "x"), seg(header, ""), seg(body, "last")),
	}
}

// sender sends the frames of assemblies, each of them in order.
type sender struct {
	l    []api.Assembly
	left [][]api.Frame
	sent []int
}

func newSender(l []api.Assembly, most int) *sender {
	s := &sender{l: l, sent: make([]int, len(l))}
	for _, a := range l {
		frames, _ := gather.Cut(a, most)
		s.left = append(s.left, frames)
	}
	return s
}

// open is how many assemblies are under way.
func (s *sender) open() int {
	n := 0
	for i := range s.l {
		if s.sent[i] > 0 && len(s.left[i]) > 0 {
			n++
		}
	}
	return n
}

// send feeds the next frame of the assembly of that index, if there is one.
func (s *sender) send(t *testing.T, g *gather.Gather, i int) bool {
	t.Helper()
	if len(s.left[i]) == 0 {
		return false
	}
	f := s.left[i][0]
	s.left[i] = s.left[i][1:]
	s.sent[i]++
	if len(s.left[i]) == 0 {
		checkFeed(t, g, f, s.l[i], true, api.OK, s.open())
	} else {
		checkFeed(t, g, f, api.Assembly{}, false, api.OK, s.open())
	}
	return true
}

func TestP7_4_InTurns(t *testing.T) {
	for _, most := range []int{1, 2, 3, 7, 30, mostPiece} {
		g := gather.New()
		s := newSender(together(), most)
		for going := true; going; {
			going = false
			for i := range s.l {
				going = s.send(t, g, i) || going
			}
		}
	}
}

func TestP7_4_Inside(t *testing.T) {
	g := gather.New()
	s := newSender(together(), 1)
	for i := range s.l {
		s.send(t, g, i)
	}
	for i := len(s.l) - 1; i >= 0; i-- {
		for s.send(t, g, i) {
		}
	}
}

func TestP7_4_AnyOrder(t *testing.T) {
	var d dice
	g := gather.New()
	for range 500 {
		s := newSender(together(), 1+d.below(9))
		for left := 40; left > 0; {
			if !s.send(t, g, d.below(len(s.l))) {
				left--
			}
		}
		for i := range s.l {
			for s.send(t, g, i) {
			}
		}
	}
}
