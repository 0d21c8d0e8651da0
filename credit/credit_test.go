package credit_test

import (
	"math"
	"math/rand"
	"slices"
	"strings"
	"testing"
	"unsafe"

	"posthouse/api"
	"posthouse/credit"
)

// long returns a tag of n bytes.
func long(n int) string { return strings.Repeat("t", n) }

// abc are the tags of some subscriptions.
func abc() []string { return []string{"a", "b", "c"} }

// mixed is a round with a (credit 2), b (none), c (endless) and d (1), of which b was served last.
func mixed(t *testing.T) *pair {
	t.Helper()
	p := newPair(t)
	for _, tag := range []string{"a", "b", "c", "d"} {
		p.add(tag, api.OK)
	}
	p.give("a", 2, api.OK)
	p.give("b", 1, api.OK)
	p.give("c", endless, api.OK)
	p.give("d", 1, api.OK)
	p.turn("b", "b")
	return p
}

// all is a round with those subscriptions, each with the credit Endless, of which last was served last.
func all(t *testing.T, last string, tags ...string) *pair {
	t.Helper()
	p := newPair(t)
	for _, tag := range tags {
		p.add(tag, api.OK)
		p.give(tag, endless, api.OK)
	}
	if last != "" {
		p.turn(last, last)
	}
	return p
}

func TestP16_1_New(t *testing.T) {
	p := newPair(t)
	p.tags()
	p.turn("")
	p.turn("", "", "a", long(41))
	for _, tag := range []string{"", "a", long(40), long(41)} {
		p.remove(tag, api.ErrNone)
		p.give(tag, 1, api.ErrNone)
		p.stop(tag, api.ErrNone)
	}
	p.tags()
}

// Of two rounds none knows of the other.
func TestP16_1_Apart(t *testing.T) {
	p, q := newPair(t), newPair(t)
	p.add("a", api.OK)
	p.give("a", 3, api.OK)
	q.add("b", api.OK)
	q.add("a", api.OK)
	q.give("a", 1, api.OK)
	p.turn("a", "a", "b")
	q.remove("b", api.OK)
	p.remove("b", api.ErrNone)
	q.turn("a", "a")
	p.turn("a", "a")
	p.check()
	q.check()
}

func TestP16_1_AddLengths(t *testing.T) {
	p := newPair(t)
	for n := range 60 {
		want := api.OK
		if n == 0 || n > 40 {
			want = api.ErrArg
		}
		p.add(long(n), want)
	}
	for _, n := range []int{64, 255, 256, 65536, 1 << 20} {
		p.add(long(n), api.ErrArg)
	}
	p.add("", api.ErrArg)
	p.add(long(1), api.ErrThere)
	p.add(long(40), api.ErrThere)
	p.add(long(41), api.ErrArg)
	if n := len(p.r.Tags()); n != 40 {
		t.Error(n)
	}
	p.add(long(39)+"u", api.OK)
	p.give(long(39)+"u", 1, api.OK)
	p.turn("", long(41), "")
	p.turn(long(39)+"u", long(40), long(39)+"u")
}

// A tag's bytes are counted, not its characters, and may be any.
func TestP16_1_AddAnyBytes(t *testing.T) {
	p := newPair(t)
	p.add(strings.Repeat("é", 20), api.OK)
	p.add(strings.Repeat("é", 21), api.ErrArg)
	p.add(strings.Repeat("é", 40), api.ErrArg)
	for _, tag := range []string{"\x00", "\x00\x00", "\xff", "\xc3", "\xc3\x28", "\xed\xa0\x80", "\xef\xbf\xbd", " ", "a b", "a\n", "%", strings.Repeat("\xff", 40)} {
		p.add(tag, api.OK)
		p.add(tag, api.ErrThere)
		p.give(tag, 1, api.OK)
	}
	p.add(strings.Repeat("\xff", 41), api.ErrArg)
	p.turn("\x00\x00", "\x00\x00", "\xfe", "")
	p.turn("\xff", "\xff")
	p.turn("\xef\xbf\xbd", "\xef\xbf\xbd")
	p.remove("\xff", api.OK)
	p.remove("\xff", api.ErrNone)
	p.add("\xff", api.OK)
}

func TestP16_1_AddEachByte(t *testing.T) {
	r, m := credit.New(), &model{}
	for b := range 256 {
		tag := string([]byte{byte(b)})
		if e := r.Add(tag); e != api.OK || m.add(tag) != api.OK {
			t.Fatal(b, e)
		}
		if e := r.Add(tag); e != api.ErrThere {
			t.Fatal(b, e)
		}
		if e := r.Give(tag, uint32(b)); e != api.OK || m.give(tag, uint32(b)) != api.OK {
			t.Fatal(b, e)
		}
	}
	checkSame(t, r, m)
	checkOrder(t, r, m)
}

// What is added has no credit, and stands after the others, whichever was served last.
func TestP16_1_Add(t *testing.T) {
	for _, last := range []string{"", "a", "b", "c"} {
		p := all(t, last, abc()...)
		p.add("0", api.OK)
		p.credit("0", 0)
		p.tags("a", "b", "c", "0")
		p.turn("", "0")
		p.give("0", 1, api.OK)
		p.turn("0", "0")
		p.credit("0", 0)
		p.turn("a", "a", "b", "c", "0")
	}
}

func TestP16_1_AddThere(t *testing.T) {
	p := mixed(t)
	for _, tag := range []string{"a", "b", "c", "d"} {
		p.add(tag, api.ErrThere)
	}
	p.tags("a", "b", "c", "d")
	p.credit("a", 2)
	p.credit("b", 0)
	p.credit("c", endless)
	p.credit("d", 1)
	p.add("A", api.OK)
	p.add("aa", api.OK)
	p.add("a ", api.OK)
	p.add("a", api.ErrThere)
}

func TestP16_1_Remove(t *testing.T) {
	for _, c := range []struct {
		tag  string
		left []string
	}{
		{"a", []string{"b", "c", "d"}}, {"b", []string{"a", "c", "d"}},
		{"c", []string{"a", "b", "d"}}, {"d", abc()},
	} {
		p := mixed(t)
		p.remove(c.tag, api.OK)
		p.tags(c.left...)
		p.remove(c.tag, api.ErrNone)
		p.give(c.tag, 1, api.ErrNone)
		p.stop(c.tag, api.ErrNone)
		p.turn("", c.tag)
		if n, e := p.r.Credit(c.tag); n != 0 || e != api.ErrNone {
			t.Error(c.tag, n, e)
		}
		for _, tag := range c.left {
			p.remove(tag, api.OK)
		}
		p.tags()
		p.turn("", "a", "b", "c", "d")
	}
}

func TestP16_1_RemoveNone(t *testing.T) {
	p := mixed(t)
	for _, tag := range []string{"", "e", "A", "aa", "ab", "a\x00", " a", "\x00", "\xff", long(40), long(41), long(1000)} {
		p.remove(tag, api.ErrNone)
	}
	p.tags("a", "b", "c", "d")
}

func TestP16_1_RemoveTheOnlyOne(t *testing.T) {
	for _, served := range []bool{false, true} {
		p := all(t, "", "a")
		if served {
			p.turn("a", "a")
		}
		p.remove("a", api.OK)
		p.tags()
		p.turn("", "a")
		p.remove("a", api.ErrNone)
		p.add("b", api.OK)
		p.add("a", api.OK)
		p.tags("b", "a")
		p.give("a", 1, api.OK)
		p.give("b", 1, api.OK)
		p.turn("b", "a", "b")
		p.turn("a", "a", "b")
		p.turn("", "a", "b")
	}
}

// A tag that is added again is a new subscription: at the end, without credit, and not served yet.
func TestP16_1_AddAgain(t *testing.T) {
	for _, tag := range []string{"a", "b", "c", "d"} {
		p := mixed(t)
		p.remove(tag, api.OK)
		p.add(tag, api.OK)
		p.add(tag, api.ErrThere)
		p.credit(tag, 0)
		l := p.r.Tags()
		if len(l) != 4 || l[3] != tag {
			t.Error(tag, l)
		}
		p.turn("", tag)
	}
	p := all(t, "b", abc()...)
	p.remove("b", api.OK)
	p.add("b", api.OK)
	p.tags("a", "c", "b")
	p.give("b", endless, api.OK)
	for _, tag := range []string{"c", "b", "a", "c"} {
		p.turn(tag, abc()...)
	}
}

func TestP16_1_Examples(t *testing.T) {
	p := newPair(t)
	for _, tag := range abc() {
		p.add(tag, api.OK)
	}
	p.add("a", api.ErrThere)
	p.add("", api.ErrArg)
	p.stop("z", api.ErrNone)
	p.tags("a", "b", "c")
}

// spoil writes over a list, and over what lies behind it.
func spoil(l []string) {
	l = l[:cap(l)]
	for i := range l {
		l[i] = "spoilt"
	}
}

func TestP16_1_OwnMemory(t *testing.T) {
	p := mixed(t)
	for range 2 {
		l, other := p.r.Tags(), p.r.Tags()
		spoil(l)
		if !slices.Equal(other, []string{"a", "b", "c", "d"}) {
			t.Error(other)
		}
		p.check()
	}
	l := p.r.Tags()
	p.remove("a", api.OK)
	p.add("e", api.OK)
	if !slices.Equal(l, []string{"a", "b", "c", "d"}) {
		t.Error(l)
	}
	spoil(l)
	p.check()
}

// What is kept of a tag is a copy, and so is what is returned.
func TestP16_1_KeepsNoArgument(t *testing.T) {
	memory := []byte("ab")
	r, m := credit.New(), &model{}
	r.Add(unsafe.String(&memory[0], 1))
	r.Give(unsafe.String(&memory[0], 1), 2)
	r.Add(unsafe.String(&memory[1], 1))
	memory[0], memory[1] = 'y', 'z'
	m.add("a")
	m.give("a", 2)
	m.add("b")
	checkSame(t, r, m)
	may := []string{"a"}
	first, _ := r.Turn(may)
	second, _ := r.Turn(may)
	m.turn(may)
	m.turn(may)
	one, other := r.Tags(), r.Tags()
	for i, pair := range [][2]string{{first, may[0]}, {second, may[0]}, {first, second}, {one[0], other[0]}, {one[1], other[1]}, {one[0], second}} {
		if pair[0] != pair[1] || unsafe.StringData(pair[0]) == unsafe.StringData(pair[1]) {
			t.Errorf("%d: %q and %q are not equal, or share memory", i, pair[0], pair[1])
		}
	}
	checkSame(t, r, m)
	checkOrder(t, r, m)
}

// Neither nil nor a zero Round is a round.
func TestP16_1_NoRound(t *testing.T) {
	for _, r := range []*credit.Round{nil, {}, new(credit.Round)} {
		for range 2 {
			for _, tag := range []string{"", "a", "\xff", long(40), long(41)} {
				for i, e := range []api.Errno{
					r.Add(tag), r.Add(tag), r.Remove(tag), r.Give(tag, 0), r.Give(tag, 1), r.Give(tag, endless), r.Stop(tag),
				} {
					if e != api.ErrNil {
						t.Error(r, tag, i, e)
					}
				}
				if n, e := r.Credit(tag); n != 0 || e != api.ErrNil {
					t.Error(r, tag, n, e)
				}
				for _, may := range [][]string{nil, {}, {tag}, {tag, tag, "a"}} {
					if got, is := r.Turn(may); got != "" || is {
						t.Error(r, may, got, is)
					}
				}
			}
			if l := r.Tags(); len(l) != 0 {
				t.Error(r, l)
			}
		}
	}
}

// edges are the credits, and what is given, where something changes.
func edges() []uint32 {
	return []uint32{0, 1, 2, 3, 255, 256, math.MaxInt32, 1 << 31, 1<<31 + 1, endless - 3, endless - 2, endless - 1, endless}
}

func TestP16_2_GiveSums(t *testing.T) {
	for _, c := range []struct{ had, n, want uint32 }{
		{0, 0, 0}, {0, 1, 1}, {0, endless - 1, endless - 1}, {0, endless, endless},
		{1, 0, 1}, {1, 1, 2}, {1, endless - 2, endless - 1}, {1, endless - 1, endless}, {1, endless, endless},
		{2, endless - 2, endless}, {2, endless - 1, endless}, {2, endless - 3, endless - 1},
		{endless - 1, 0, endless - 1}, {endless - 1, 1, endless}, {endless - 1, 2, endless},
		{endless - 1, endless - 1, endless}, {endless - 1, endless, endless},
		{endless, 0, endless}, {endless, 1, endless}, {endless, endless - 1, endless}, {endless, endless, endless},
		{1 << 31, 1<<31 - 2, endless - 1}, {1 << 31, 1<<31 - 1, endless}, {1 << 31, 1 << 31, endless}, {1 << 31, 1<<31 + 1, endless},
	} {
		p := newPair(t)
		p.add("a", api.OK)
		p.give("a", c.had, api.OK)
		p.credit("a", c.had)
		p.give("a", c.n, api.OK)
		p.credit("a", c.want)
	}
}

// Three edges given one after the other, with a turn behind them.
func TestP16_2_GiveEdges(t *testing.T) {
	for _, first := range edges() {
		for _, second := range edges() {
			for _, third := range edges() {
				r := credit.New()
				r.Add("a")
				sum := uint64(0)
				for _, n := range []uint32{first, second, third} {
					sum = min(sum+uint64(n), endless)
					if e := r.Give("a", n); e != api.OK {
						t.Fatal(e)
					}
					if got, e := r.Credit("a"); uint64(got) != sum || e != api.OK {
						t.Fatal(first, second, third, got, e)
					}
				}
				_, is := r.Turn([]string{"a"})
				if got, _ := r.Credit("a"); is != (sum > 0) || sum == endless && got != endless || is && sum != endless && uint64(got) != sum-1 {
					t.Fatal(sum, is, got)
				}
			}
		}
	}
}

// A credit given, stopped or asked for is that of one subscription alone, and does not change whose turn it is.
func TestP16_2_OfOneAlone(t *testing.T) {
	for _, tag := range []string{"a", "b", "c", "d"} {
		for _, n := range edges() {
			p := mixed(t)
			had, _ := p.r.Credit(tag)
			p.give(tag, n, api.OK)
			p.credit(tag, uint32(min(uint64(had)+uint64(n), endless)))
			p.stop(tag, api.OK)
			p.credit(tag, 0)
			p.give(tag, n, api.OK)
			p.credit(tag, n)
		}
	}
}

func TestP16_2_Stop(t *testing.T) {
	for _, n := range edges() {
		p := newPair(t)
		p.add("a", api.OK)
		p.stop("a", api.OK)
		p.credit("a", 0)
		p.give("a", n, api.OK)
		p.stop("a", api.OK)
		p.credit("a", 0)
		p.turn("", "a")
		p.stop("a", api.OK)
		p.give("a", 1, api.OK)
		p.credit("a", 1)
		p.turn("a", "a")
		p.turn("", "a")
	}
}

// The last served one is still that without credit.
func TestP16_2_StopTheLastServed(t *testing.T) {
	p := all(t, "b", abc()...)
	p.stop("b", api.OK)
	p.turn("c", abc()...)
	p.turn("a", abc()...)
	p.turn("c", abc()...)
	p.give("b", 1, api.OK)
	p.turn("a", abc()...)
	p.turn("b", abc()...)
	p.turn("c", abc()...)
	p.turn("a", abc()...)
	p.turn("c", abc()...)
}

func TestP16_2_None(t *testing.T) {
	p := mixed(t)
	for _, tag := range []string{"", "e", "A", "aa", "ab", "a\x00", "\x00", "\xff", long(40), long(41), long(1000)} {
		for _, n := range []uint32{0, 1, endless - 1, endless} {
			p.give(tag, n, api.ErrNone)
		}
		p.stop(tag, api.ErrNone)
		if n, e := p.r.Credit(tag); n != 0 || e != api.ErrNone {
			t.Error(tag, n, e)
		}
	}
}

func TestP16_2_Examples(t *testing.T) {
	p := newPair(t)
	for _, tag := range abc() {
		p.add(tag, api.OK)
	}
	p.give("b", 1, api.OK)
	p.turn("b", abc()...)
	p.give("b", endless, api.OK)
	p.give("b", 5, api.OK)
	p.credit("b", endless)
}

func TestP16_3_Examples(t *testing.T) {
	p := newPair(t)
	for _, tag := range abc() {
		p.add(tag, api.OK)
	}
	p.give("a", 2, api.OK)
	p.give("c", 2, api.OK)
	for _, tag := range []string{"a", "c", "a", "c", ""} {
		p.turn(tag, abc()...)
	}
	p.give("b", 1, api.OK)
	p.turn("b", abc()...)
}

// Each of four served last, or none, each set of those that may be served, with each set of those that have credit.
func TestP16_3_FirstInOrder(t *testing.T) {
	tags := []string{"a", "b", "c", "d"}
	for last := range 5 {
		for may := range 16 {
			for rich := range 16 {
				r, m := credit.New(), &model{}
				do := func(c call) outcome {
					got, want := c.of(r), c.ofModel(m)
					if got != want {
						t.Fatalf("%v instead of %v, of %+v and %v", got, want, c, m)
					}
					return got
				}
				for _, tag := range tags {
					do(call{what: 'A', tag: tag})
				}
				if last > 0 {
					do(call{what: 'G', tag: tags[last-1], n: 1})
					do(call{what: 'T', may: tags})
				}
				var asked []string
				for i, tag := range tags {
					if rich>>i&1 == 1 {
						do(call{what: 'G', tag: tag, n: uint32(i + 1)})
					}
					if may>>i&1 == 1 {
						asked = append(asked, tag)
					}
				}
				if o := do(call{what: 'T', may: asked}); o.is != (may&rich != 0) {
					t.Fatal(last, may, rich, o)
				}
				checkSame(t, r, m)
				checkOrder(t, r, m)
			}
		}
	}
}

func TestP16_3_Lists(t *testing.T) {
	p := mixed(t)
	p.turn("")
	p.turn("", []string{}...)
	p.turn("", "", "e", "A", "\x00", long(40), long(41))
	p.turn("", "b")
	p.turn("", "b", "b", "e")
	// The order in which the tags are given is not asked, nor how often each of them is.
	p.turn("c", "a", "d", "c", "b")
	p.turn("d", "b", "d", "a", "d", "c", "d")
	p.turn("a", "d", "c", "a")
	p.turn("c", "c", "c", "c", "a", "a")
	p.turn("a", "a", "a", "a")
	p.turn("", "a", "a")
	p.turn("c", slices.Repeat([]string{"e", "c", ""}, 100)...)
	p.turn("", "", "e")
}

func TestP16_3_OneAlone(t *testing.T) {
	p := newPair(t)
	p.add("a", api.OK)
	p.turn("", "a")
	p.give("a", 3, api.OK)
	for left := range 3 {
		p.turn("", "b")
		p.turn("a", "b", "a")
		p.credit("a", uint32(2-left))
	}
	p.turn("", "a")
	p.give("a", endless, api.OK)
	for range 5 {
		p.turn("a", "a")
		p.credit("a", endless)
	}
}

// Where others may not be served, or have no credit, the last served one is served again.
func TestP16_3_OnlyTheLastServed(t *testing.T) {
	for _, last := range []string{"a", "b", "c"} {
		p := all(t, last, abc()...)
		for range 3 {
			p.turn(last, last)
			p.turn(last, last, "z", last)
		}
		for _, tag := range abc() {
			if tag != last {
				p.stop(tag, api.OK)
			}
		}
		for range 3 {
			p.turn(last, abc()...)
		}
		p.stop(last, api.OK)
		p.turn("", abc()...)
		p.give(last, 1, api.OK)
		p.turn(last, abc()...)
		p.turn("", abc()...)
	}
}

func TestP16_3_Decrements(t *testing.T) {
	for _, n := range edges() {
		for _, tag := range abc() {
			p := newPair(t)
			for _, other := range abc() {
				p.add(other, api.OK)
				p.give(other, 7, api.OK)
			}
			p.stop(tag, api.OK)
			p.give(tag, n, api.OK)
			switch n {
			case 0:
				p.turn("", tag)
				p.credit(tag, 0)
			case endless:
				p.turn(tag, tag)
				p.credit(tag, endless)
			default:
				p.turn(tag, tag)
				p.credit(tag, n-1)
			}
		}
	}
}

// A credit that was endless by its sum is endless, and one that was just below it is not.
func TestP16_3_Endless(t *testing.T) {
	p := newPair(t)
	p.add("a", api.OK)
	p.give("a", endless-1, api.OK)
	p.turn("a", "a")
	p.credit("a", endless-2)
	p.give("a", 1, api.OK)
	p.credit("a", endless-1)
	p.turn("a", "a")
	p.give("a", 2, api.OK)
	p.credit("a", endless)
	p.turn("a", "a")
	p.credit("a", endless)
	for range 10000 {
		if tag, is := p.r.Turn([]string{"a"}); tag != "a" || !is {
			t.Fatal(tag, is)
		}
	}
	p.credit("a", endless)
}

// A turn that finds none changes nothing: the next one begins where it began.
func TestP16_3_NoneChangesNothing(t *testing.T) {
	for _, last := range []string{"", "a", "b", "c"} {
		p := all(t, last, abc()...)
		for _, may := range [][]string{nil, {}, {"z"}, {""}, {"z", "z", long(41)}} {
			p.turn("", may...)
		}
		for _, tag := range abc() {
			p.stop(tag, api.OK)
		}
		p.turn("", abc()...)
		for _, tag := range abc() {
			p.give(tag, endless, api.OK)
		}
		p.turn("", "z")
		p.tags("a", "b", "c")
		next := map[string]string{"": "a", "a": "b", "b": "c", "c": "a"}[last]
		p.turn(next, abc()...)
	}
}

// If the last served one is removed, the one before it takes its place, or there is none.
func TestP16_3_RemoveTheLastServed(t *testing.T) {
	for _, c := range []struct{ last, next string }{{"a", "b"}, {"b", "c"}, {"c", "d"}, {"d", "a"}} {
		p := all(t, c.last, "a", "b", "c", "d")
		p.remove(c.last, api.OK)
		p.turn(c.next, "a", "b", "c", "d")
	}
	// The first one has none before it, and what is added then stands at the end.
	p := all(t, "a", abc()...)
	p.remove("a", api.OK)
	p.add("a", api.OK)
	p.give("a", endless, api.OK)
	for _, tag := range []string{"b", "c", "a", "b"} {
		p.turn(tag, abc()...)
	}
	// The one before it is the last one in a turn's order.
	p = all(t, "b", abc()...)
	p.remove("b", api.OK)
	p.stop("c", api.OK)
	p.turn("a", abc()...)
	// What is added behind a last one that was removed comes next.
	p = all(t, "c", abc()...)
	p.remove("c", api.OK)
	p.add("c", api.OK)
	p.give("c", 1, api.OK)
	p.turn("c", abc()...)
	p.turn("a", abc()...)
}

// Whoever takes its place may be removed as well.
func TestP16_3_RemoveRepeatedly(t *testing.T) {
	p := all(t, "c", "a", "b", "c", "d")
	p.remove("c", api.OK)
	p.remove("b", api.OK)
	p.turn("d", "a", "b", "c", "d")
	p = all(t, "c", "a", "b", "c", "d")
	p.remove("c", api.OK)
	p.remove("b", api.OK)
	p.remove("a", api.OK)
	p.add("a", api.OK)
	p.give("a", endless, api.OK)
	p.turn("d", "a", "d")
	p.turn("a", "a", "d")
	p.remove("a", api.OK)
	p.remove("d", api.OK)
	p.turn("", "a", "d")
	p.add("e", api.OK)
	p.give("e", 1, api.OK)
	p.turn("e", "e")
}

// The removal of another one does not change whose turn it is.
func TestP16_3_RemoveAnother(t *testing.T) {
	for _, c := range []struct{ last, gone, next string }{
		{"a", "b", "c"}, {"a", "c", "b"}, {"a", "d", "b"}, {"b", "a", "c"}, {"b", "c", "d"}, {"b", "d", "c"},
		{"c", "a", "d"}, {"c", "b", "d"}, {"c", "d", "a"}, {"d", "a", "b"}, {"d", "b", "a"}, {"d", "c", "a"},
		{"", "a", "b"}, {"", "b", "a"}, {"", "d", "a"},
	} {
		p := all(t, c.last, "a", "b", "c", "d")
		p.remove(c.gone, api.OK)
		p.turn(c.next, "a", "b", "c", "d")
	}
}

// Neither the list nor what lies behind it is changed or kept.
func TestP16_3_LeavesItsArgument(t *testing.T) {
	p := all(t, "", abc()...)
	memory := []string{"c", "b", "a", "c", "behind", "it"}
	kept := slices.Clone(memory)
	for range 4 {
		p.do(call{what: 'T', may: memory[:4]})
		if !slices.Equal(memory, kept) {
			t.Fatal(memory)
		}
	}
	may := []string{"c"}
	if got, is := p.r.Turn(may); got != "c" || !is {
		t.Fatal(got, is)
	}
	may[0] = "b"
	for _, want := range []string{"a", "b", "c", "a"} {
		if got, is := p.r.Turn(abc()); got != want || !is {
			t.Fatal(got, is, want)
		}
	}
}

// Each credit that was given is served just as often, whatever else is called.
func TestP16_4_ServedAsOftenAsGiven(t *testing.T) {
	random := rand.New(rand.NewSource(164))
	for range 200 {
		r := credit.New()
		tags := []string{"a", "b", "c", "d", "e"}[:random.Intn(5)+1]
		given, served := map[string]int{}, map[string]int{}
		for _, tag := range tags {
			r.Add(tag)
		}
		for range 100 {
			tag := tags[random.Intn(len(tags))]
			if random.Intn(4) == 0 {
				n := random.Intn(6)
				r.Give(tag, uint32(n))
				given[tag] += n
			}
			r.Add(tag)
			r.Remove("z")
			may := tags[random.Intn(len(tags)):]
			if got, is := r.Turn(may); is {
				served[got]++
			}
			for _, tag := range tags {
				if n, e := r.Credit(tag); int(n) != given[tag]-served[tag] || e != api.OK {
					t.Fatal(tag, n, e, given, served)
				}
			}
		}
		for {
			got, is := r.Turn(tags)
			if !is {
				break
			}
			served[got]++
		}
		for _, tag := range tags {
			if given[tag] != served[tag] {
				t.Fatal(tag, given, served)
			}
		}
	}
}

// Of those that can always be served none is served twice while another one is not, whoever else may be served, comes or goes.
func TestP16_4_NoneTwice(t *testing.T) {
	random := rand.New(rand.NewSource(4))
	for range 200 {
		r := credit.New()
		always := map[string]int{}
		var tags, others []string
		for i := range random.Intn(10) + 1 {
			tag := string(rune('a' + i))
			r.Add(tag)
			if random.Intn(3) == 0 {
				others = append(others, tag)
				r.Give(tag, uint32(random.Intn(20)))
				continue
			}
			r.Give(tag, endless)
			tags, always[tag] = append(tags, tag), 0
		}
		for turn := range 200 {
			may := slices.Clone(tags)
			for _, tag := range others {
				switch random.Intn(8) {
				case 0:
					r.Remove(tag)
				case 1:
					r.Add(tag)
				case 2:
					r.Give(tag, endless)
				case 3:
					r.Stop(tag)
				case 4, 5:
					may = append(may, tag)
				}
			}
			got, is := r.Turn(may)
			if len(tags) > 0 && !is {
				t.Fatal(turn, got)
			}
			if _, counted := always[got]; counted {
				always[got]++
			}
			least, most := math.MaxInt, 0
			for _, n := range always {
				least, most = min(least, n), max(most, n)
			}
			if len(tags) > 0 && most > least+1 {
				t.Fatalf("%v of %q, which may be served always", always, tags)
			}
		}
	}
}

// All are served in order, again and again.
func TestP16_4_InOrder(t *testing.T) {
	for n := 1; n <= 12; n++ {
		r := credit.New()
		var tags []string
		for i := range n {
			tag := long(i + 1)
			tags = append(tags, tag)
			r.Add(tag)
			r.Give(tag, endless)
		}
		for turn := range 5 * n {
			if got, is := r.Turn(tags); got != tags[turn%n] || !is {
				t.Fatal(n, turn, got, is)
			}
		}
	}
}

// deeds are calls of which lists are made: of three subscriptions, with what can be told apart of each call.
func deeds() []call {
	return []call{
		{what: 'A', tag: "a"}, {what: 'A', tag: "b"},
		{what: 'R', tag: "a"}, {what: 'R', tag: "b"}, {what: 'R', tag: "c"}, {what: 'R', tag: ""},
		{what: 'G', tag: "a", n: 1}, {what: 'G', tag: "b", n: endless}, {what: 'G', tag: "z", n: 1},
		{what: 'S', tag: "a"}, {what: 'S', tag: "c"},
		{what: 'T', may: []string{"a", "b", "c"}}, {what: 'T', may: []string{"c"}}, {what: 'T', may: []string{"b", "a"}}, {what: 'T'},
	}
}

// Each list of four calls, of a round without subscriptions and of one with three.
func TestP16_4_AllBriefLists(t *testing.T) {
	l := deeds()
	starts := [][]call{nil, {
		{what: 'A', tag: "a"}, {what: 'A', tag: "b"}, {what: 'A', tag: "c"},
		{what: 'G', tag: "a", n: 2}, {what: 'G', tag: "b", n: endless}, {what: 'G', tag: "c", n: 1}, {what: 'T', may: []string{"b"}},
	}}
	for _, start := range starts {
		for code := range len(l) * len(l) * len(l) * len(l) {
			r, m := credit.New(), &model{}
			calls := start[:len(start):len(start)]
			for n, i := code, 0; i < 4; n, i = n/len(l), i+1 {
				calls = append(calls, l[n%len(l)])
			}
			for i, c := range calls {
				if got, want := c.of(r), c.ofModel(m); got != want {
					t.Fatalf("%v instead of %v, of %+v: %v", got, want, calls[:i+1], m)
				}
			}
			checkSame(t, r, m)
			checkOrder(t, r, m)
		}
	}
}

// randomCall is any call, most often of what is there.
func randomCall(m *model, random *rand.Rand) call {
	tags := append(m.tags(), "", "a", "b", "c", "d", "e", "\xff", long(40), long(41))
	tag := tags[random.Intn(len(tags))]
	switch random.Intn(12) {
	case 0, 1:
		return call{what: 'A', tag: tag}
	case 2:
		return call{what: 'R', tag: tag}
	case 3, 4:
		return call{what: 'G', tag: tag, n: uint32(random.Intn(4))}
	case 5:
		return call{what: 'G', tag: tag, n: edges()[random.Intn(len(edges()))]}
	case 6:
		return call{what: 'S', tag: tag}
	case 7:
		return call{what: 'T', may: tags}
	}
	var may []string
	for range random.Intn(len(tags) + 1) {
		may = append(may, tags[random.Intn(len(tags))])
	}
	return call{what: 'T', may: may}
}

func TestP16_4_RandomCalls(t *testing.T) {
	random := rand.New(rand.NewSource(16))
	for range 300 {
		p := newPair(t)
		for i := range 300 {
			p.do(randomCall(p.m, random))
			checkSame(t, p.r, p.m)
			if i%30 == 0 {
				p.check()
			}
		}
	}
}

// A great many subscriptions can be added, served and removed, in whatever order.
func TestP16_4_ManySubscriptions(t *testing.T) {
	const many = 50000
	r := credit.New()
	var tags []string
	for i := range many {
		tags = append(tags, string([]byte{byte(i >> 16), byte(i >> 8), byte(i)}))
		if r.Add(tags[i]) != api.OK || r.Give(tags[i], endless) != api.OK {
			t.Fatal(i)
		}
	}
	for i := range 5 {
		if got, is := r.Turn(tags); got != tags[i] || !is {
			t.Fatal(i, got, is)
		}
	}
	for _, at := range rand.New(rand.NewSource(3)).Perm(many)[1:] {
		if e := r.Remove(tags[at]); e != api.OK {
			t.Fatal(at, e)
		}
	}
	l := r.Tags()
	if len(l) != 1 {
		t.Fatal(len(l))
	}
	if got, is := r.Turn(tags); got != l[0] || !is {
		t.Fatal(got, is)
	}
}
