package queue_test

import (
	"math"
	"math/rand"
	"slices"
	"testing"

	"posthouse/api"
	"posthouse/queue"
)

// mixed is a queue with room for two more messages, two of which are reserved: 2, 4 and 9 are ready, 7 holds 1 and 6, 8 holds 5; 3 and 10 are gone.
func mixed(t *testing.T) *pair {
	t.Helper()
	p := newPair(t, 10)
	for id := uint64(1); id <= 6; id++ {
		p.put(id, api.OK)
	}
	p.hold(1, 7, api.OK)
	p.hold(6, 7, api.OK)
	p.hold(5, 8, api.OK)
	p.hold(3, 9, api.OK)
	p.drop(3, 9, api.OK)
	p.keep(3, api.OK)
	p.fill(9, api.OK)
	p.put(10, api.OK)
	p.hold(10, 9, api.OK)
	p.drop(10, 9, api.OK)
	return p
}

func TestP15_1_Limits(t *testing.T) {
	for _, c := range []struct{ limit, room uint64 }{
		{0, 0}, {1, 1}, {2, 2}, {1<<62 - 1, 1<<62 - 1}, {1 << 62, 1 << 62}, {1<<62 + 1, 1 << 62},
		{math.MaxInt64, 1 << 62}, {1 << 63, 1 << 62}, {math.MaxUint64, 1 << 62},
	} {
		q := queue.New(c.limit)
		if q.Room() != c.room || q.Ready() != 0 || q.Kept() != 0 || len(q.All()) != 0 || len(q.Purge()) != 0 {
			t.Error(c.limit, q.Room(), q.Ready(), q.Kept(), q.All())
		}
		p := newPair(t, c.limit)
		if c.limit == 0 {
			p.put(1, api.ErrFull)
			p.keep(1, api.ErrFull)
			p.keep(0, api.OK)
			continue
		}
		p.put(1, api.OK)
		p.put(0, api.ErrArg)
	}
}

// Of two queues none knows of the other.
func TestP15_1_Apart(t *testing.T) {
	a, b := newPair(t, 3), newPair(t, 3)
	a.put(5, api.OK)
	a.next(7, 5)
	b.put(1, api.OK)
	b.next(7, 1)
	b.drop(5, 7, api.ErrNone)
	checkSame(t, a.q, a.m)
}

func TestP15_2_Examples(t *testing.T) {
	p := newPair(t, 3)
	p.put(1, api.OK)
	p.put(2, api.OK)
	p.next(7, 1)
	p.next(8, 2)
	p.next(7, 0)
	p.free(1, 8, api.ErrState)
	p.free(1, 7, api.OK)
	p.next(9, 1)
	p.keep(1, api.OK)
	p.put(3, api.ErrFull)
	p.fill(3, api.OK)
	if p.q.Room() != 0 {
		t.Error(p.q.Room())
	}
	p.put(3, api.ErrArg)
	p.drop(5, 7, api.ErrNone)
	p.pass(1, 9, 0, api.ErrArg)
}

func TestP15_2_Numbers(t *testing.T) {
	p := newPair(t, 10)
	p.put(0, api.ErrArg)
	p.fill(0, api.ErrArg)
	p.put(5, api.OK)
	for _, id := range []uint64{0, 1, 4, 5} {
		p.put(id, api.ErrArg)
		p.fill(id, api.ErrArg)
	}
	p.put(6, api.OK)
	p.keep(2, api.OK)
	p.fill(6, api.ErrArg)
	p.fill(7, api.OK)
	p.put(7, api.ErrArg)
	p.fill(100, api.OK)
	p.put(99, api.ErrArg)
	p.put(math.MaxUint64-1, api.OK)
	p.put(math.MaxUint64, api.OK)
	p.keep(1, api.OK)
	for _, id := range []uint64{0, 1, 101, math.MaxUint64 - 1, math.MaxUint64} {
		p.put(id, api.ErrArg)
		p.fill(id, api.ErrArg)
	}
	p.next(7, 5)
	p.hold(math.MaxUint64, 7, api.OK)
	p.drop(math.MaxUint64, 7, api.OK)
	p.put(math.MaxUint64, api.ErrArg)
}

// A number that was there once is never added again.
func TestP15_2_NumbersThatAreGone(t *testing.T) {
	p := newPair(t, 10)
	p.put(5, api.OK)
	p.next(7, 5)
	p.drop(5, 7, api.OK)
	p.put(5, api.ErrArg)
	p.put(6, api.OK)
	p.purge(6)
	p.put(6, api.ErrArg)
	p.keep(1, api.OK)
	p.fill(6, api.ErrArg)
	p.fill(7, api.OK)
	p.purge(7)
	p.put(7, api.ErrArg)
	p.put(8, api.OK)
}

// A number that was refused may be added later.
func TestP15_2_RefusedNumbers(t *testing.T) {
	p := newPair(t, 1)
	p.fill(9, api.ErrNone)
	p.keep(1, api.OK)
	p.put(9, api.ErrFull)
	p.give(1, api.OK)
	p.put(3, api.OK)
	p.put(9, api.ErrFull)
	p.purge(3)
	p.put(4, api.OK)
}

func TestP15_2_Full(t *testing.T) {
	p := newPair(t, 2)
	p.put(1, api.OK)
	p.put(2, api.OK)
	p.put(3, api.ErrFull)
	p.put(2, api.ErrArg)
	p.next(7, 1)
	p.put(3, api.ErrFull)
	p.drop(1, 7, api.OK)
	p.put(3, api.OK)
	p.put(4, api.ErrFull)
	p.purge(2, 3)
	p.put(4, api.OK)
	p.keep(1, api.OK)
	p.put(5, api.ErrFull)
	p.give(1, api.OK)
	p.put(5, api.OK)
	p.put(0, api.ErrArg)
}

func TestP15_2_Keep(t *testing.T) {
	p := newPair(t, 5)
	p.put(1, api.OK)
	p.next(7, 1)
	p.put(2, api.OK)
	for _, n := range []int{-1, math.MinInt} {
		p.keep(n, api.ErrArg)
	}
	p.keep(0, api.OK)
	for _, n := range []int{4, 5, math.MaxInt} {
		p.keep(n, api.ErrFull)
	}
	p.keep(2, api.OK)
	p.keep(2, api.ErrFull)
	p.keep(1, api.OK)
	p.keep(1, api.ErrFull)
	p.keep(0, api.OK)
	p.keep(-1, api.ErrArg)
	p.put(3, api.ErrFull)
	p.put(2, api.ErrArg)
}

func TestP15_2_KeepOfGreatQueues(t *testing.T) {
	p := newPair(t, math.MaxUint64)
	p.keep(1<<62+1, api.ErrFull)
	p.keep(math.MaxInt, api.ErrFull)
	p.keep(1<<62, api.OK)
	p.keep(1, api.ErrFull)
	p.keep(math.MaxInt, api.ErrFull)
	p.put(1, api.ErrFull)
	p.give(1<<62+1, api.ErrArg)
	p.fill(1, api.OK)
	p.give(1<<62, api.ErrArg)
	p.give(1<<62-1, api.OK)
	p.keep(1<<62, api.ErrFull)
	p.keep(1<<62-1, api.OK)
}

func TestP15_2_Give(t *testing.T) {
	p := newPair(t, 5)
	p.give(0, api.OK)
	p.give(1, api.ErrArg)
	p.keep(3, api.OK)
	for _, n := range []int{-1, math.MinInt, 4, 5, math.MaxInt} {
		p.give(n, api.ErrArg)
	}
	p.give(0, api.OK)
	p.give(1, api.OK)
	p.give(3, api.ErrArg)
	p.give(2, api.OK)
	p.give(1, api.ErrArg)
}

func TestP15_2_Fill(t *testing.T) {
	p := newPair(t, 3)
	p.fill(1, api.ErrNone)
	p.fill(0, api.ErrArg)
	p.keep(2, api.OK)
	p.put(1, api.OK)
	p.fill(2, api.OK)
	p.fill(2, api.ErrArg)
	p.fill(3, api.OK)
	p.fill(3, api.ErrArg)
	p.fill(4, api.ErrNone)
	p.next(7, 1)
	p.next(7, 2)
	p.next(7, 3)
	p.next(7, 0)
}

func TestP15_3_Next(t *testing.T) {
	p := mixed(t)
	p.next(0, 0)
	p.next(7, 2)
	p.next(1, 4)
	p.next(0, 0)
	p.next(math.MaxUint64, 9)
	p.next(7, 0)
	p.put(11, api.OK)
	p.next(8, 11)
	p = newPair(t, 3)
	p.next(7, 0)
	p.next(0, 0)
}

func TestP15_3_Hold(t *testing.T) {
	p := mixed(t)
	for _, id := range []uint64{0, 3, 10, 11, math.MaxUint64} {
		p.hold(id, 7, api.ErrNone)
		p.hold(id, 0, api.ErrArg)
	}
	for _, id := range []uint64{1, 5, 6} {
		p.hold(id, 7, api.ErrState)
		p.hold(id, 8, api.ErrState)
		p.hold(id, math.MaxUint64, api.ErrState)
		p.hold(id, 0, api.ErrArg)
	}
	p.hold(4, 0, api.ErrArg)
	p.hold(4, 1, api.OK)
	p.hold(4, 1, api.ErrState)
	p.hold(9, math.MaxUint64, api.OK)
	p.hold(2, 7, api.OK)
	p.next(7, 0)
}

func TestP15_3_Pass(t *testing.T) {
	p := mixed(t)
	for _, id := range []uint64{0, 3, 10, 11, math.MaxUint64} {
		p.pass(id, 7, 8, api.ErrNone)
		p.pass(id, 0, 8, api.ErrNone)
		p.pass(id, 7, 0, api.ErrArg)
		p.pass(id, 0, 0, api.ErrArg)
	}
	for _, id := range []uint64{2, 4, 9} {
		p.pass(id, 7, 8, api.ErrState)
		p.pass(id, 0, 8, api.ErrState)
		p.pass(id, 0, 0, api.ErrArg)
	}
	p.pass(1, 0, 8, api.ErrState)
	p.pass(1, 8, 7, api.ErrState)
	p.pass(1, 7, 0, api.ErrArg)
	p.pass(1, 7, 7, api.OK)
	p.pass(1, 7, 8, api.OK)
	p.pass(1, 7, 8, api.ErrState)
	p.pass(1, 8, math.MaxUint64, api.OK)
	p.pass(1, math.MaxUint64, 1, api.OK)
	p.free(1, 1, api.OK)
	p.pass(1, 1, 7, api.ErrState)
}

func TestP15_3_Free(t *testing.T) {
	p := mixed(t)
	for _, id := range []uint64{0, 3, 10, 11, math.MaxUint64} {
		p.free(id, 7, api.ErrNone)
		p.free(id, 0, api.ErrNone)
	}
	for _, id := range []uint64{2, 4, 9} {
		p.free(id, 7, api.ErrState)
		p.free(id, 0, api.ErrState)
	}
	p.free(1, 0, api.ErrState)
	p.free(1, 8, api.ErrState)
	p.free(5, 8, api.OK)
	p.free(5, 8, api.ErrState)
	p.free(6, 7, api.OK)
	p.free(1, 7, api.OK)
	for _, id := range []uint64{1, 2, 4, 5, 6, 9, 0} {
		p.next(3, id)
	}
}

func TestP15_3_Drop(t *testing.T) {
	p := mixed(t)
	for _, id := range []uint64{0, 3, 10, 11, math.MaxUint64} {
		p.drop(id, 7, api.ErrNone)
		p.drop(id, 0, api.ErrNone)
	}
	for _, id := range []uint64{2, 4, 9} {
		p.drop(id, 7, api.ErrState)
		p.drop(id, 0, api.ErrState)
	}
	p.drop(1, 0, api.ErrState)
	p.drop(1, 8, api.ErrState)
	p.drop(6, 7, api.OK)
	p.drop(6, 7, api.ErrNone)
	p.drop(1, 7, api.OK)
	p.drop(5, 7, api.ErrState)
	p.drop(5, 8, api.OK)
	p.next(7, 2)
	p.drop(2, 7, api.OK)
}

func TestP15_4_Purge(t *testing.T) {
	p := mixed(t)
	p.purge(2, 4, 9)
	p.purge()
	p.next(7, 0)
	p.free(6, 7, api.OK)
	p.put(11, api.OK)
	p.purge(6, 11)
	p.drop(1, 7, api.OK)
	p.free(5, 8, api.OK)
	p.put(12, api.OK)
	p.purge(5, 12)
	p.purge()
	p = newPair(t, 3)
	p.purge()
	p.put(1, api.OK)
	p.put(2, api.OK)
	p.purge(1, 2)
	p.put(3, api.OK)
	p.next(7, 3)
	p.purge()
	p.keep(2, api.OK)
	p.purge()
}

func TestP15_5_Accessors(t *testing.T) {
	q := mixed(t).q
	if q.Ready() != 3 || q.Kept() != 2 || q.Room() != 2 {
		t.Error(q.Ready(), q.Kept(), q.Room())
	}
	if l := q.All(); !slices.Equal(l, []uint64{1, 2, 4, 5, 6, 9}) {
		t.Error(l)
	}
	for owner, want := range map[uint64][]uint64{0: nil, 1: nil, 7: {1, 6}, 8: {5}, 9: nil, math.MaxUint64: nil} {
		if l := q.Of(owner); !slices.Equal(l, want) {
			t.Error(owner, l)
		}
	}
	for id, want := range map[uint64]uint64{1: 7, 2: 0, 4: 0, 5: 8, 6: 7, 9: 0} {
		if owner, e := q.Owner(id); owner != want || e != api.OK {
			t.Error(id, owner, e)
		}
	}
	for _, id := range []uint64{0, 3, 7, 8, 10, 11, math.MaxUint64} {
		if owner, e := q.Owner(id); owner != 0 || e != api.ErrNone {
			t.Error(id, owner, e)
		}
	}
}

// The numbers of an owner are ascending in whatever order it came to them.
func TestP15_5_OrderOfOf(t *testing.T) {
	random := rand.New(rand.NewSource(7))
	for range 20 {
		p := newPair(t, 100)
		for id := range uint64(20) {
			p.put(id+1, api.OK)
		}
		for _, at := range random.Perm(20) {
			p.hold(uint64(at)+1, uint64(at%2)+1, api.OK)
		}
	}
}

func TestP15_5_FreeCapacity(t *testing.T) {
	p := newPair(t, 2)
	p.keep(1, api.OK)
	for want, do := range []func(){
		func() { p.put(1, api.OK) }, func() { p.give(1, api.OK) },
	} {
		do()
		if p.q.Room() != uint64(want) {
			t.Error(want, p.q.Room())
		}
	}
}

// Neither nil nor a zero Queue is a queue.
func TestP15_5_NoQueue(t *testing.T) {
	for _, q := range []*queue.Queue{nil, {}, new(queue.Queue)} {
		for _, n := range []uint64{0, 1, math.MaxUint64} {
			for i, e := range []api.Errno{
				q.Put(n), q.Keep(int(n)), q.Give(int(n)), q.Fill(n), q.Keep(math.MinInt), q.Give(math.MaxInt),
				q.Hold(n, 0), q.Hold(n, 7), q.Pass(n, 7, 0), q.Pass(n, 0, 7), q.Free(n, 0), q.Free(n, 7), q.Drop(n, 0), q.Drop(n, 7),
			} {
				if e != api.ErrNil {
					t.Error(q, n, i, e)
				}
			}
			if id, is := q.Next(n); id != 0 || is {
				t.Error(q, n, id, is)
			}
			if owner, e := q.Owner(n); owner != 0 || e != api.ErrNil {
				t.Error(q, n, owner, e)
			}
			if l := q.Of(n); len(l) != 0 {
				t.Error(q, n, l)
			}
		}
		if len(q.Purge()) != 0 || len(q.All()) != 0 || q.Ready() != 0 || q.Kept() != 0 || q.Room() != 0 {
			t.Error(q, q.All(), q.Ready(), q.Kept(), q.Room())
		}
	}
}

// spoil writes over a list, and over what lies behind it.
func spoil(l []uint64) {
	l = l[:cap(l)]
	for i := range l {
		l[i] = 77
	}
}

func TestP15_5_OwnMemory(t *testing.T) {
	p := mixed(t)
	for range 2 {
		spoil(p.q.All())
		spoil(p.q.Of(7))
		spoil(p.q.Of(8))
		checkSame(t, p.q, p.m)
	}
	gone := p.q.Purge()
	p.m.purge()
	kept := slices.Clone(gone)
	p.free(1, 7, api.OK)
	p.put(11, api.OK)
	p.put(12, api.OK)
	if !slices.Equal(gone, kept) {
		t.Error(gone)
	}
	spoil(gone)
	checkSame(t, p.q, p.m)
	p.next(7, 1)
	p.next(7, 11)
	all, of := p.q.All(), p.q.Of(7)
	spoil(all)
	if !slices.Equal(of, []uint64{1, 6, 11}) {
		t.Error(of)
	}
	checkSame(t, p.q, p.m)
}

func TestP15_6_Ascending(t *testing.T) {
	p := newPair(t, 300)
	random := rand.New(rand.NewSource(6))
	last, id := uint64(0), uint64(0)
	for range 400 {
		switch random.Intn(4) {
		case 0, 1:
			id += uint64(random.Intn(3)) + 1
			p.put(id, api.OK)
		case 2:
			if p.q.Ready() > 0 {
				got, is := p.q.Next(7)
				p.m.next(7)
				if !is || got <= last {
					t.Fatal(got, last)
				}
				last = got
			}
		case 3:
			if l := p.q.Of(7); len(l) > 0 {
				p.drop(l[random.Intn(len(l))], 7, api.OK)
			}
		}
	}
}

// What is returned is handed out ahead of all behind it, from whatever place.
func TestP15_6_StandsWhereItStood(t *testing.T) {
	for at := uint64(1); at <= 6; at++ {
		p := newPair(t, 10)
		for id := uint64(1); id <= 6; id++ {
			p.put(id, api.OK)
		}
		p.hold(at, 7, api.OK)
		p.free(at, 7, api.OK)
		for id := uint64(1); id <= 6; id++ {
			p.next(8, id)
		}
		p.free(at, 8, api.OK)
		p.put(7, api.OK)
		p.next(9, at)
		p.next(9, 7)
	}
}

// All orders in which five messages are held, and returned.
func TestP15_6_AllOrders(t *testing.T) {
	random := rand.New(rand.NewSource(5))
	for range 200 {
		p := newPair(t, 5)
		for id := uint64(1); id <= 5; id++ {
			p.put(id, api.OK)
		}
		for _, at := range random.Perm(5) {
			p.hold(uint64(at)+1, 7, api.OK)
		}
		for _, at := range random.Perm(5) {
			p.free(uint64(at)+1, 7, api.OK)
		}
		p.purge(1, 2, 3, 4, 5)
	}
}

// walk makes one random call of both.
func walk(p *pair, random *rand.Rand) {
	ids := append(p.m.all(), 0, p.m.last, p.m.last+1, p.m.last+uint64(random.Intn(3)), uint64(random.Intn(10)))
	id := ids[random.Intn(len(ids))]
	owner, other := owners()[random.Intn(6)], owners()[random.Intn(6)]
	if at := p.m.at(id); at >= 0 && random.Intn(2) == 0 {
		owner = p.m.rows[at].owner
	}
	n := random.Intn(6) - 1
	switch random.Intn(11) {
	case 0, 1:
		p.same(p.q.Put(id), p.m.put(id))
	case 2:
		p.same(p.q.Keep(n), p.m.keep(n))
	case 3:
		p.same(p.q.Give(n), p.m.give(n))
	case 4:
		p.same(p.q.Fill(id), p.m.fill(id))
	case 5:
		got, is := p.q.Next(owner)
		if want, wanted := p.m.next(owner); got != want || is != wanted {
			p.t.Fatal(got, is, want, wanted)
		}
	case 6:
		p.same(p.q.Hold(id, owner), p.m.hold(id, owner))
	case 7:
		p.same(p.q.Pass(id, owner, other), p.m.pass(id, owner, other))
	case 8:
		p.same(p.q.Free(id, owner), p.m.free(id, owner))
	case 9:
		p.same(p.q.Drop(id, owner), p.m.drop(id, owner))
	case 10:
		if random.Intn(10) == 0 {
			if got, want := p.q.Purge(), p.m.purge(); !slices.Equal(got, want) {
				p.t.Fatal(got, want)
			}
		}
	}
	checkSame(p.t, p.q, p.m)
}

func (p *pair) same(got, want api.Errno) {
	p.t.Helper()
	if got != want {
		p.t.Fatalf("%d instead of %d, of %+v", got, want, *p.m)
	}
}

func TestP15_6_RandomCalls(t *testing.T) {
	random := rand.New(rand.NewSource(15))
	for _, limit := range []uint64{0, 1, 2, 3, 5, 8, 20, 1 << 62, math.MaxUint64} {
		for range 20 {
			p := newPair(t, limit)
			for range 300 {
				walk(p, random)
			}
		}
	}
}

// A great many messages can be put, handed out, returned and dropped.
func TestP15_6_ManyMessages(t *testing.T) {
	const many = 50000
	q := queue.New(many)
	for id := uint64(1); id <= many; id++ {
		if e := q.Put(id); e != api.OK {
			t.Fatal(id, e)
		}
	}
	for id := uint64(1); id <= many; id++ {
		if got, is := q.Next(7); got != id || !is {
			t.Fatal(got, is)
		}
	}
	for id := uint64(many); id >= 1; id-- {
		if e := q.Free(id, 7); e != api.OK {
			t.Fatal(id, e)
		}
	}
	if l := q.Purge(); len(l) != many || l[0] != 1 || l[many-1] != many || !slices.IsSorted(l) {
		t.Fatal(len(l))
	}
}
