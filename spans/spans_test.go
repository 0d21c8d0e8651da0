package spans_test

import (
	"bytes"
	"math"
	"slices"
	"testing"

	"posthouse/api"
	"posthouse/octet"
	"posthouse/spans"
)

const top = math.MaxUint32

// row is a list of spans by their numbers.
func row(n ...uint32) []api.Span {
	var l []api.Span
	for i := 0; i+1 < len(n); i += 2 {
		l = append(l, api.Span{From: n[i], To: n[i+1]})
	}
	return l
}

// many is a list of so many spans, two apart.
func many(n int) []api.Span {
	var l []api.Span
	for i := range n {
		l = append(l, api.Span{From: uint32(3 * i), To: uint32(3*i + 1)})
	}
	return l
}

// wrongs are lists that are not canonical.
func wrongs() [][]api.Span {
	long := many(api.MaxSpans + 1)
	slices.Reverse(long)
	return [][]api.Span{
		row(2, 1),
		row(top, 0),
		row(top, top-1),
		row(1, 2, 3, 4),
		row(0, 0, 1, 1),
		row(top-1, top-1, top, top),
		row(0, 1, 1, 2),
		row(1, 5, 2, 3),
		row(1, 2, 1, 2),
		row(5, 6, 1, 2),
		row(4, 4, 0, 0),
		row(3, 4, 2, 2),
		row(top, top, 0, 0),
		row(0, top, 0, 0),
		row(0, top, 1, 1),
		row(0, top, top, top),
		row(5, top, 1, 2),
		row(1, 2, 9, 8),
		row(9, 8, 20, 21),
		row(1, 2, 4, 5, 6, 7),
		row(1, 2, 3, 4, 9, 9),
		row(1, 2, 9, 9, 5, 5),
		long,
		append(many(api.MaxSpans), api.Span{}),
	}
}

// canonicals are some canonical lists, edges among them.
func canonicals() [][]api.Span {
	return [][]api.Span{
		nil,
		{},
		row(0, 0),
		row(top, top),
		row(0, top),
		row(0, 0, 2, 2),
		row(0, 0, top, top),
		row(top-2, top-2, top, top),
		row(0, top-2, top, top),
		row(0, 0, 2, top),
		row(7, 7),
		row(1, 2, 4, 5),
		row(1, 2, 5, 5, 9, 100),
		row(1, 2, 4, 4, 6, 1<<31, 1<<31+2, top-9),
		many(api.MaxSpans),
		many(api.MaxSpans + 1),
	}
}

// worlds are each eight numbers with whose sets a set of bits can be held against a list: at the least numbers, in the middle, at the greatest, and at both ends.
func worlds() [][]uint32 {
	var low, middle, high, ends []uint32
	for i := range uint32(8) {
		low = append(low, i)
		middle = append(middle, 1<<31-4+i)
		high = append(high, top-7+i)
		ends = append(ends, i-4)
	}
	slices.Sort(ends)
	return [][]uint32{low, middle, high, ends}
}

// listed is the canonical list of those numbers of a world whose bits are set.
func listed(world []uint32, set int) []api.Span {
	var l []api.Span
	for i, n := range world {
		if set>>i&1 == 0 {
			continue
		}
		if last := len(l) - 1; last >= 0 && n > 0 && l[last].To == n-1 {
			l[last].To = n
		} else {
			l = append(l, api.Span{From: n, To: n})
		}
	}
	return l
}

// between is the set of those numbers of a world that are from from to to.
func between(world []uint32, from, to uint32) int {
	set := 0
	for i, n := range world {
		if from <= n && n <= to {
			set |= 1 << i
		}
	}
	return set
}

// mixer yields the same numbers in each run.
type mixer uint64

func (m *mixer) next() uint64 {
	*m += 0x9e3779b97f4a7c15
	x := uint64(*m)
	x = (x ^ x>>30) * 0xbf58476d1ce4e5b9
	x = (x ^ x>>27) * 0x94d049bb133111eb
	return x ^ x>>31
}

// list is a canonical list of at most so many spans, some of them two apart.
func (m *mixer) list(most int) []api.Span {
	var l []api.Span
	at := m.next() % 9
	for range int(m.next() % uint64(most+1)) {
		to := at + m.next()%6
		l = append(l, api.Span{From: uint32(at), To: uint32(to)})
		at = to + 2 + m.next()%5*(m.next()%2)
	}
	return l
}

// contains tells whether n is in a canonical list, one span after the other.
func contains(l []api.Span, n uint32) bool {
	for _, s := range l {
		if s.From <= n && n <= s.To {
			return true
		}
	}
	return false
}

// near are the numbers at which something may change by these lists, and those beside them.
func near(lists ...[]api.Span) []uint32 {
	out := []uint32{0, top}
	for _, l := range lists {
		for _, s := range l {
			// What wraps round is a number like any other.
			out = append(out, s.From-1, s.From, s.From+1, s.To-1, s.To, s.To+1)
		}
	}
	slices.Sort(out)
	return slices.Compact(out)
}

// isCanonical is what the chapter calls so, word by word.
func isCanonical(l []api.Span) bool {
	for i := range l {
		if !(l[i].From <= l[i].To) {
			return false
		}
		if i > 0 && !(int64(l[i].From)-int64(l[i-1].To) >= 2) {
			return false
		}
	}
	return true
}

// checkList asks whether a call answered that list.
func checkList(t *testing.T, what string, got []api.Span, e api.Errno, want []api.Span) {
	t.Helper()
	if e != api.OK || !slices.Equal(got, want) {
		t.Fatalf("%s: %v, %d, not %v", what, got, e, want)
	}
}

// checkError asks whether a call answered that error, and no list.
func checkError(t *testing.T, what string, got []api.Span, e, want api.Errno) {
	t.Helper()
	if e != want || len(got) != 0 {
		t.Fatalf("%s: %v, %d, not %d", what, got, e, want)
	}
}

// encoded is the encoding of a list, canonical or not, made without the package.
func encoded(l []api.Span) []byte {
	b := []byte{byte(8 * len(l) >> 8), byte(8 * len(l))}
	for _, s := range l {
		for _, n := range []uint32{s.From, s.To} {
			b = append(b, byte(n>>24), byte(n>>16), byte(n>>8), byte(n))
		}
	}
	return b
}

func TestP3_1_Right(t *testing.T) {
	for _, l := range canonicals() {
		if !spans.Right(l) {
			t.Errorf("Right of %v: false", l)
		}
	}
	for _, l := range wrongs() {
		if spans.Right(l) {
			t.Errorf("Right of %v: true", l)
		}
	}
}

// All lists of up to two spans over some numbers, and mixed ones of three, by the chapter's words.
func TestP3_1_RightAsWorded(t *testing.T) {
	numbers := []uint32{0, 1, 2, 3, 1<<31 - 1, 1 << 31, 1<<31 + 1, top - 2, top - 1, top}
	var all []api.Span
	for _, from := range numbers {
		for _, to := range numbers {
			all = append(all, api.Span{From: from, To: to})
		}
	}
	m := mixer(1)
	for _, a := range all {
		for _, b := range all {
			c := all[m.next()%uint64(len(all))]
			for _, l := range [][]api.Span{{a}, {a, b}, {a, b, c}, {a, c, b}, {c, a, b}} {
				if got := spans.Right(l); got != isCanonical(l) {
					t.Fatalf("Right of %v: %v", l, got)
				}
			}
		}
	}
}

func TestP3_1_Has(t *testing.T) {
	for _, c := range []struct {
		l    []api.Span
		n    uint32
		want bool
	}{
		{nil, 0, false},
		{nil, top, false},
		{[]api.Span{}, 7, false},
		{row(3, 4), 2, false},
		{row(3, 4), 3, true},
		{row(3, 4), 4, true},
		{row(3, 4), 5, false},
		{row(0, 0), 0, true},
		{row(0, 0), 1, false},
		{row(0, 0), top, false},
		{row(top, top), top, true},
		{row(top, top), top - 1, false},
		{row(top, top), 0, false},
		{row(0, top), 0, true},
		{row(0, top), 1 << 31, true},
		{row(0, top), top, true},
		{row(1, 2, 4, 5), 3, false},
		{row(1, 2, 4, 5), 2, true},
		{row(1, 2, 4, 5), 4, true},
	} {
		if got := spans.Has(c.l, c.n); got != c.want {
			t.Errorf("Has(%v, %d): %v", c.l, c.n, got)
		}
	}
	for _, l := range canonicals() {
		for _, n := range near(l) {
			if got := spans.Has(l, n); got != contains(l, n) {
				t.Fatalf("Has of %d spans, %d: %v", len(l), n, got)
			}
		}
	}
}

func TestP3_1_Count(t *testing.T) {
	for _, c := range []struct {
		l    []api.Span
		want uint64
	}{
		{nil, 0},
		{[]api.Span{}, 0},
		{row(0, 0), 1},
		{row(top, top), 1},
		{row(0, top), 1 << 32},
		{row(1, top), top},
		{row(0, top-1), top},
		{row(0, top-2, top, top), top},
		{row(1, 2, 4, 4, 6, 9), 7},
		{many(api.MaxSpans + 1), 2 * (api.MaxSpans + 1)},
	} {
		if got := spans.Count(c.l); got != c.want {
			t.Errorf("Count of %v: %d, not %d", c.l, got, c.want)
		}
	}
}

func TestP3_1_NotCanonical(t *testing.T) {
	for _, l := range wrongs() {
		if n := spans.Count(l); n != 0 {
			t.Errorf("Count of %v: %d", l, n)
		}
		for _, n := range near(l) {
			if spans.Has(l, n) {
				t.Errorf("Has(%v, %d): true", l, n)
			}
		}
	}
}

func TestP3_1_ArgumentsStay(t *testing.T) {
	for _, l := range append(canonicals(), wrongs()...) {
		front, whole := roomy(l, api.Span{From: 77, To: 78})
		before := slices.Clone(whole)
		spans.Right(front)
		spans.Has(front, 7)
		spans.Count(front)
		if !slices.Equal(whole, before) {
			t.Errorf("argument changed: %v", whole)
		}
	}
}

func TestP3_2_AddCut(t *testing.T) {
	for _, c := range []struct {
		l        []api.Span
		from, to uint32
		add, cut []api.Span
	}{
		{nil, 3, 5, row(3, 5), nil},
		{nil, 0, 0, row(0, 0), nil},
		{nil, top, top, row(top, top), nil},
		{nil, 0, top, row(0, top), nil},
		{row(1, 2, 5, 5), 3, 4, row(1, 5), row(1, 2, 5, 5)},
		{row(1, 2), 4, 4, row(1, 2, 4, 4), row(1, 2)},
		{row(1, 2), 3, 3, row(1, 3), row(1, 2)},
		{row(4, 5), 3, 3, row(3, 5), row(4, 5)},
		{row(4, 5), 2, 2, row(2, 2, 4, 5), row(4, 5)},
		{row(1, 5), 2, 3, row(1, 5), row(1, 1, 4, 5)},
		{row(1, 5), 3, 3, row(1, 5), row(1, 2, 4, 5)},
		{row(1, 5), 1, 1, row(1, 5), row(2, 5)},
		{row(1, 5), 5, 5, row(1, 5), row(1, 4)},
		{row(1, 5), 1, 5, row(1, 5), nil},
		{row(1, 5), 0, 9, row(0, 9), nil},
		{row(1, 5), 0, 3, row(0, 5), row(4, 5)},
		{row(1, 5), 3, 9, row(1, 9), row(1, 2)},
		{row(0, 0), top, top, row(0, 0, top, top), row(0, 0)},
		{row(top, top), 0, 0, row(0, 0, top, top), row(top, top)},
		{row(0, 0), 0, 0, row(0, 0), nil},
		{row(top, top), top, top, row(top, top), nil},
		{row(0, top), 0, 0, row(0, top), row(1, top)},
		{row(0, top), top, top, row(0, top), row(0, top-1)},
		{row(0, top), 0, top, row(0, top), nil},
		{row(0, top), 7, 7, row(0, top), row(0, 6, 8, top)},
		{row(0, top-1), top, top, row(0, top), row(0, top-1)},
		{row(1, top), 0, 0, row(0, top), row(1, top)},
		{row(0, 0, top, top), 1, top - 1, row(0, top), row(0, 0, top, top)},
		{row(0, 0, top, top), 2, top - 2, row(0, 0, 2, top-2, top, top), row(0, 0, top, top)},
		{row(1, 2, 4, 5, 7, 8, 20, 21), 3, 6, row(1, 8, 20, 21), row(1, 2, 7, 8, 20, 21)},
		{row(1, 2, 4, 5, 7, 8, 20, 21), 2, 7, row(1, 8, 20, 21), row(1, 1, 8, 8, 20, 21)},
		{row(1, 2, 20, 21), 10, 11, row(1, 2, 10, 11, 20, 21), row(1, 2, 20, 21)},
	} {
		l, e := spans.Add(c.l, c.from, c.to)
		checkList(t, "Add", l, e, c.add)
		l, e = spans.Cut(c.l, c.from, c.to)
		checkList(t, "Cut", l, e, c.cut)
	}
}

func TestP3_2_Wrong(t *testing.T) {
	for _, l := range wrongs() {
		for _, c := range [][2]uint32{{9, 9}, {0, top}, {2, 1}, {top, 0}} {
			got, e := spans.Add(l, c[0], c[1])
			checkError(t, "Add to a wrong list", got, e, api.ErrSpan)
			got, e = spans.Cut(l, c[0], c[1])
			checkError(t, "Cut of a wrong list", got, e, api.ErrSpan)
		}
	}
	for _, l := range canonicals() {
		for _, c := range [][2]uint32{{2, 1}, {1, 0}, {top, 0}, {top, top - 1}} {
			got, e := spans.Add(l, c[0], c[1])
			checkError(t, "Add with from above to", got, e, api.ErrArg)
			got, e = spans.Cut(l, c[0], c[1])
			checkError(t, "Cut with from above to", got, e, api.ErrArg)
		}
	}
}

// MaxSpans limits what is encoded, not what is computed.
func TestP3_2_MoreThanMaxSpans(t *testing.T) {
	just := many(api.MaxSpans)
	more := many(api.MaxSpans + 1)
	last := more[api.MaxSpans]
	l, e := spans.Add(just, last.From, last.To)
	checkList(t, "Add beyond MaxSpans", l, e, more)
	l, e = spans.Cut(more, last.From, last.To)
	checkList(t, "Cut down to MaxSpans", l, e, just)
	l, e = spans.Cut(append(many(api.MaxSpans-1), api.Span{From: 5000, To: 6000}), 5500, 5500)
	checkList(t, "Cut in two", l, e, append(many(api.MaxSpans-1), row(5000, 5499, 5501, 6000)...))
	l, e = spans.Add(more, 0, last.To)
	checkList(t, "Add over all", l, e, row(0, last.To))
}

func TestP3_3_BothEither(t *testing.T) {
	for _, c := range []struct{ a, b, both, either []api.Span }{
		{nil, nil, nil, nil},
		{nil, row(1, 2), nil, row(1, 2)},
		{[]api.Span{}, row(0, top), nil, row(0, top)},
		{row(1, 5, 8, 9), row(4, 8), row(4, 5, 8, 8), row(1, 9)},
		{row(1, 2), row(3, 3), nil, row(1, 3)},
		{row(1, 2), row(4, 4), nil, row(1, 2, 4, 4)},
		{row(1, 2), row(1, 2), row(1, 2), row(1, 2)},
		{row(1, 2), row(2, 3), row(2, 2), row(1, 3)},
		{row(1, 9), row(3, 4), row(3, 4), row(1, 9)},
		{row(1, 9), row(1, 1, 9, 9), row(1, 1, 9, 9), row(1, 9)},
		{row(0, top), row(0, 0, top, top), row(0, 0, top, top), row(0, top)},
		{row(0, top), row(0, top), row(0, top), row(0, top)},
		{row(0, 0), row(top, top), nil, row(0, 0, top, top)},
		{row(0, 1<<31-1), row(1<<31, top), nil, row(0, top)},
		{row(0, 1<<31), row(1<<31, top), row(1<<31, 1<<31), row(0, top)},
		{row(0, 0, 2, 2, 4, 4), row(1, 1, 3, 3), nil, row(0, 4)},
		{row(1, 2, 5, 6, 9, 9), row(2, 5, 8, 20), row(2, 2, 5, 5, 9, 9), row(1, 6, 8, 20)},
	} {
		for _, pair := range [][2][]api.Span{{c.a, c.b}, {c.b, c.a}} {
			l, e := spans.Both(pair[0], pair[1])
			checkList(t, "Both", l, e, c.both)
			l, e = spans.Either(pair[0], pair[1])
			checkList(t, "Either", l, e, c.either)
		}
	}
}

func TestP3_3_Wrong(t *testing.T) {
	for _, wrong := range wrongs() {
		for _, l := range append(canonicals(), wrongs()...) {
			for _, pair := range [][2][]api.Span{{wrong, l}, {l, wrong}} {
				got, e := spans.Both(pair[0], pair[1])
				checkError(t, "Both of a wrong list", got, e, api.ErrSpan)
				got, e = spans.Either(pair[0], pair[1])
				checkError(t, "Either of a wrong list", got, e, api.ErrSpan)
			}
		}
	}
}

// MaxSpans limits what is encoded, not what is computed.
func TestP3_3_MoreThanMaxSpans(t *testing.T) {
	a, b := many(api.MaxSpans), many(api.MaxSpans)
	for i := range b {
		b[i].From += 5000
		b[i].To += 5000
	}
	l, e := spans.Either(a, b)
	checkList(t, "Either beyond MaxSpans", l, e, append(slices.Clone(a), b...))
	both := many(api.MaxSpans + 1)
	l, e = spans.Both(both, row(0, top))
	checkList(t, "Both beyond MaxSpans", l, e, both)
}

func TestP3_4_Put(t *testing.T) {
	for _, c := range []struct {
		l    []api.Span
		want string
	}{
		{nil, "\x00\x00"},
		{[]api.Span{}, "\x00\x00"},
		{row(1, 2), "\x00\x08\x00\x00\x00\x01\x00\x00\x00\x02"},
		{row(0, 0), "\x00\x08\x00\x00\x00\x00\x00\x00\x00\x00"},
		{row(0, 0, 0x01020304, top), "\x00\x10\x00\x00\x00\x00\x00\x00\x00\x00\x01\x02\x03\x04\xff\xff\xff\xff"},
	} {
		if b, e := spans.Put(c.l); string(b) != c.want || e != api.OK {
			t.Errorf("Put(%v): %x, %d", c.l, b, e)
		}
	}
	just := many(api.MaxSpans)
	b, e := spans.Put(just)
	if e != api.OK || len(b) != 8002 || string(b[:2]) != "\x1f\x40" || !bytes.Equal(b, encoded(just)) {
		t.Errorf("Put of MaxSpans spans: %d bytes, %d", len(b), e)
	}
}

func TestP3_4_PutWrong(t *testing.T) {
	for _, n := range []int{api.MaxSpans + 1, 8191, 8192, 10000} {
		if b, e := spans.Put(many(n)); len(b) != 0 || e != api.ErrFull {
			t.Errorf("Put of %d spans: %d bytes, %d", n, len(b), e)
		}
	}
	// Among these are lists of more than MaxSpans spans: ErrSpan comes first.
	for _, l := range wrongs() {
		if b, e := spans.Put(l); len(b) != 0 || e != api.ErrSpan {
			t.Errorf("Put(%v): %x, %d", l, b, e)
		}
	}
}

func TestP3_4_Get(t *testing.T) {
	for _, behind := range []string{"", "\xff", "\x00\x00\x00\x05\x00\x00\x00\x06"} {
		for _, l := range canonicals() {
			if len(l) > api.MaxSpans {
				continue
			}
			b := encoded(l)
			got, n, e := spans.Get(append(bytes.Clone(b), behind...))
			if n != len(b) {
				t.Fatalf("Get of %v: %d bytes, not %d", l, n, len(b))
			}
			checkList(t, "Get", got, e, l)
		}
	}
}

// checkRefused asks whether Get answers that error for b, and nothing else.
func checkRefused(t *testing.T, b []byte, want api.Errno) {
	t.Helper()
	if l, n, e := spans.Get(b); e != want || n != 0 || len(l) != 0 {
		t.Fatalf("Get of %d bytes, %.20x: %v, %d, %d, not %d", len(b), b, l, n, e, want)
	}
}

func TestP3_4_GetShort(t *testing.T) {
	checkRefused(t, nil, api.ErrShort)
	checkRefused(t, []byte{}, api.ErrShort)
	// A first byte that can't be right is too short, too.
	for first := range 256 {
		checkRefused(t, []byte{byte(first)}, api.ErrShort)
	}
	wrong := encoded(row(5, 1, 3, 2))
	for _, l := range [][]api.Span{row(1, 2), row(1, 2, 4, top), many(9), many(api.MaxSpans)} {
		b := encoded(l)
		for end := range len(b) {
			checkRefused(t, b[:end], api.ErrShort)
		}
	}
	// ErrShort comes before the ErrForm of a list that is not canonical, even where that can be seen already.
	for end := range len(wrong) {
		checkRefused(t, wrong[:end], api.ErrShort)
	}
	checkRefused(t, wrong, api.ErrForm)
}

func TestP3_4_GetWrongNumber(t *testing.T) {
	body := encoded(many(9000))[2:]
	for size := range 1 << 16 {
		head := []byte{byte(size >> 8), byte(size)}
		if size%8 == 0 && size <= 8*api.MaxSpans {
			continue
		}
		// This ErrForm comes before the ErrShort of the bytes that are not there.
		checkRefused(t, head, api.ErrForm)
		checkRefused(t, append(head, 1), api.ErrForm)
		if size%97 == 0 || size < 64 || size > 8*api.MaxSpans && size < 8*api.MaxSpans+64 || size > 65500 {
			checkRefused(t, append(head, body[:size]...), api.ErrForm)
			checkRefused(t, append(head, body...), api.ErrForm)
		}
	}
}

func TestP3_4_GetNotCanonical(t *testing.T) {
	for _, l := range wrongs() {
		if len(l) > api.MaxSpans {
			continue
		}
		checkRefused(t, encoded(l), api.ErrForm)
		checkRefused(t, append(encoded(l), 0xff), api.ErrForm)
	}
	l := many(api.MaxSpans)
	l[api.MaxSpans-1].From--
	checkRefused(t, encoded(l), api.ErrForm)
}

// The members of the results, by sets of bits: all sets of eight numbers, and all pairs of them.
func TestP3_5_MembersOfPairs(t *testing.T) {
	for _, world := range worlds() {
		var all [256][]api.Span
		for set := range all {
			all[set] = listed(world, set)
		}
		for i, a := range all {
			for j, b := range all {
				l, e := spans.Both(a, b)
				checkList(t, "Both", l, e, all[i&j])
				l, e = spans.Either(a, b)
				checkList(t, "Either", l, e, all[i|j])
			}
		}
	}
}

func TestP3_5_MembersOfAddCut(t *testing.T) {
	for _, world := range worlds() {
		for set := range 256 {
			l := listed(world, set)
			for i, from := range world {
				for _, to := range world[i:] {
					part := between(world, from, to)
					if to-from < 8 {
						got, e := spans.Add(l, from, to)
						checkList(t, "Add", got, e, listed(world, set|part))
					}
					got, e := spans.Cut(l, from, to)
					checkList(t, "Cut", got, e, listed(world, set&^part))
				}
			}
		}
	}
}

// checkMembers asks of all numbers at which something may change whether they are in the result as they should be.
func checkMembers(t *testing.T, what string, got []api.Span, e api.Errno, numbers []uint32, want func(n uint32) bool) {
	t.Helper()
	if e != api.OK || !isCanonical(got) || !spans.Right(got) {
		t.Fatalf("%s: %v, %d", what, got, e)
	}
	for _, n := range numbers {
		if contains(got, n) != want(n) || spans.Has(got, n) != want(n) {
			t.Fatalf("%s: %v: %d", what, got, n)
		}
	}
}

func TestP3_5_MembersOfLongLists(t *testing.T) {
	m := mixer(2)
	for range 400 {
		a, b := m.list(40), m.list(40)
		from := uint32(m.next() % 200)
		to := from + uint32(m.next()%(1+m.next()%200))
		inPart := func(n uint32) bool { return from <= n && n <= to }
		numbers := near(a, b, row(from, to))
		l, e := spans.Add(a, from, to)
		checkMembers(t, "Add", l, e, numbers, func(n uint32) bool { return contains(a, n) || inPart(n) })
		l, e = spans.Cut(a, from, to)
		checkMembers(t, "Cut", l, e, numbers, func(n uint32) bool { return contains(a, n) && !inPart(n) })
		l, e = spans.Both(a, b)
		checkMembers(t, "Both", l, e, numbers, func(n uint32) bool { return contains(a, n) && contains(b, n) })
		l, e = spans.Either(a, b)
		checkMembers(t, "Either", l, e, numbers, func(n uint32) bool { return contains(a, n) || contains(b, n) })
	}
}

// What was put is got, whatever bytes follow.
func TestP3_5_GetOfPut(t *testing.T) {
	m := mixer(3)
	lists := canonicals()
	for _, world := range worlds() {
		for set := range 256 {
			lists = append(lists, listed(world, set))
		}
	}
	for range 100 {
		lists = append(lists, m.list(api.MaxSpans))
	}
	for _, l := range lists {
		if len(l) > api.MaxSpans {
			continue
		}
		b, e := spans.Put(l)
		if e != api.OK || !bytes.Equal(b, encoded(l)) {
			t.Fatalf("Put(%v): %x, %d", l, b, e)
		}
		for most := range uint64(3) {
			whole := bytes.Clone(b)
			for range most * (m.next() % 20) {
				whole = append(whole, byte(m.next()))
			}
			got, n, e := spans.Get(whole)
			if n != len(b) {
				t.Fatalf("Get of %x: %d bytes, not %d", whole, n, len(b))
			}
			checkList(t, "Get of Put", got, e, l)
		}
	}
}

// What was got is put as the bytes that were decoded: bytes with few numbers, of which many are lists and many are not.
func TestP3_5_PutOfGet(t *testing.T) {
	m := mixer(4)
	var good, bad int
	for range 20000 {
		b := octet.Put(nil, 8*(m.next()%4), 2)
		for range m.next() % 8 {
			b = octet.Put(b, m.next()%12-2, 4)
		}
		b = b[:len(b)-int(m.next()%3*(m.next()%2))]
		l, n, e := spans.Get(b)
		if e != api.OK {
			checkRefused(t, b, e)
			bad++
			continue
		}
		good++
		back, e := spans.Put(l)
		if e != api.OK || !bytes.Equal(back, b[:n]) {
			t.Fatalf("Put of what Get returned of %x, %d: %x, %d", b, n, back, e)
		}
	}
	if good < 1000 || bad < 1000 {
		t.Errorf("%d good ones, %d bad ones", good, bad)
	}
}

// fill overwrites a list, the memory after it included.
func fill[T any](l []T, with T) {
	l = l[:cap(l)]
	for i := range l {
		l[i] = with
	}
}

// roomy returns a copy of l in the front of a longer array, and the whole array.
func roomy[T any](l []T, with T) (front, whole []T) {
	whole = make([]T, len(l)+8)
	fill(whole, with)
	copy(whole, l)
	return whole[:len(l)], whole
}

// checkNewMemory calls twice with lists that have room behind them: the arguments stay, and the results share no memory with them nor with each other.
func checkNewMemory[T, R comparable](t *testing.T, what string, args [][]T, mark T, other R, call func(args [][]T) []R) {
	t.Helper()
	var fronts, wholes, before [][]T
	for _, l := range args {
		front, whole := roomy(l, mark)
		fronts, wholes, before = append(fronts, front), append(wholes, whole), append(before, slices.Clone(whole))
	}
	first, second := call(fronts), call(fronts)
	want := slices.Clone(first)
	fill(second, other)
	if !slices.Equal(first, want) {
		t.Errorf("%s: two results share memory", what)
	}
	fill(first, other)
	for i := range wholes {
		if !slices.Equal(wholes[i], before[i]) {
			t.Errorf("%s: argument changed: %v", what, wholes[i])
		}
	}
	first = call(fronts)
	for i := range wholes {
		fill(wholes[i], mark)
	}
	if !slices.Equal(first, want) {
		t.Errorf("%s: the result follows the argument", what)
	}
}

func TestP3_2_NewMemory(t *testing.T) {
	mark, other := api.Span{From: 77, To: 78}, api.Span{From: 1 << 20, To: 1 << 21}
	for _, l := range append(canonicals(), wrongs()...) {
		for _, c := range [][2]uint32{{0, 0}, {3, 3}, {0, top}, {top, top}, {5000, 5001}, {1 << 30, 1 << 30}} {
			checkNewMemory(t, "Add", [][]api.Span{l}, mark, other, func(args [][]api.Span) []api.Span {
				got, _ := spans.Add(args[0], c[0], c[1])
				return got
			})
			checkNewMemory(t, "Cut", [][]api.Span{l}, mark, other, func(args [][]api.Span) []api.Span {
				got, _ := spans.Cut(args[0], c[0], c[1])
				return got
			})
		}
	}
}

func TestP3_3_NewMemory(t *testing.T) {
	mark, other := api.Span{From: 77, To: 78}, api.Span{From: 1 << 20, To: 1 << 21}
	for _, a := range append(canonicals(), wrongs()...) {
		for _, b := range canonicals() {
			checkNewMemory(t, "Both", [][]api.Span{a, b}, mark, other, func(args [][]api.Span) []api.Span {
				got, _ := spans.Both(args[0], args[1])
				return got
			})
			checkNewMemory(t, "Either", [][]api.Span{a, b}, mark, other, func(args [][]api.Span) []api.Span {
				got, _ := spans.Either(args[0], args[1])
				return got
			})
		}
	}
}

func TestP3_4_NewMemory(t *testing.T) {
	mark := api.Span{From: 77, To: 78}
	for _, l := range append(canonicals(), wrongs()...) {
		checkNewMemory(t, "Put", [][]api.Span{l}, mark, 0x5a, func(args [][]api.Span) []byte {
			got, _ := spans.Put(args[0])
			return got
		})
		if len(l) > api.MaxSpans {
			continue
		}
		checkNewMemory(t, "Get", [][]byte{encoded(l)}, 0xee, mark, func(args [][]byte) []api.Span {
			got, _, _ := spans.Get(args[0])
			return got
		})
	}
}
