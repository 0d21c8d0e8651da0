package credit_test

import (
	"fmt"
	"slices"
	"testing"

	"posthouse/api"
	"posthouse/credit"
)

// endless is written out, so that the tests do not hang on the package for it.
const endless = 4294967295

// row is a subscription of a model; its credit is wider than it has to be, so that no sum wraps round.
type row struct {
	tag    string
	credit uint64
}

func (r row) String() string { return fmt.Sprintf("%q with %d", r.tag, r.credit) }

// model is a round as the chapter's words have it: a row of subscriptions, and the tag of the last served one, or none.
type model struct {
	rows []row
	last string
}

func (m *model) String() string { return fmt.Sprintf("%v, after %q", m.rows, m.last) }

// at returns where a subscription stands, or -1.
func (m *model) at(tag string) int {
	for i, r := range m.rows {
		if r.tag == tag {
			return i
		}
	}
	return -1
}

func (m *model) add(tag string) api.Errno {
	switch {
	case len(tag) < 1 || len(tag) > 40:
		return api.ErrArg
	case m.at(tag) >= 0:
		return api.ErrThere
	}
	m.rows = append(m.rows, row{tag: tag})
	return api.OK
}

func (m *model) remove(tag string) api.Errno {
	i := m.at(tag)
	if i < 0 {
		return api.ErrNone
	}
	if m.last == tag {
		m.last = ""
		if i > 0 {
			m.last = m.rows[i-1].tag
		}
	}
	m.rows = slices.Delete(slices.Clone(m.rows), i, i+1)
	return api.OK
}

func (m *model) give(tag string, n uint32) api.Errno {
	i := m.at(tag)
	if i < 0 {
		return api.ErrNone
	}
	m.rows[i].credit += uint64(n)
	if m.rows[i].credit > endless {
		m.rows[i].credit = endless
	}
	return api.OK
}

func (m *model) stop(tag string) api.Errno {
	i := m.at(tag)
	if i < 0 {
		return api.ErrNone
	}
	m.rows[i].credit = 0
	return api.OK
}

func (m *model) creditOf(tag string) (uint32, api.Errno) {
	i := m.at(tag)
	if i < 0 {
		return 0, api.ErrNone
	}
	return uint32(m.rows[i].credit), api.OK
}

// order returns where the subscriptions stand that a turn goes through, one by one.
func (m *model) order() []int {
	var behind, upTo []int
	for i := range m.rows {
		if m.last == "" || i > m.at(m.last) {
			behind = append(behind, i)
		} else {
			upTo = append(upTo, i)
		}
	}
	return append(behind, upTo...)
}

func (m *model) turn(may []string) (string, bool) {
	for _, i := range m.order() {
		r := &m.rows[i]
		if !slices.Contains(may, r.tag) || r.credit == 0 {
			continue
		}
		if r.credit != endless {
			r.credit--
		}
		m.last = r.tag
		return r.tag, true
	}
	return "", false
}

func (m *model) tags() []string {
	var l []string
	for _, r := range m.rows {
		l = append(l, r.tag)
	}
	return l
}

// call is a call of a round that may change it.
type call struct {
	what byte // A, R, G, S and T, as the names of the calls begin
	tag  string
	n    uint32
	may  []string
}

// outcome is what a call answers.
type outcome struct {
	e   api.Errno
	tag string
	is  bool
}

func (o outcome) String() string { return fmt.Sprintf("%d %q %v", o.e, o.tag, o.is) }

func (c call) of(r *credit.Round) (o outcome) {
	switch c.what {
	case 'A':
		o.e = r.Add(c.tag)
	case 'R':
		o.e = r.Remove(c.tag)
	case 'G':
		o.e = r.Give(c.tag, c.n)
	case 'S':
		o.e = r.Stop(c.tag)
	case 'T':
		o.tag, o.is = r.Turn(c.may)
	}
	return o
}

func (c call) ofModel(m *model) (o outcome) {
	switch c.what {
	case 'A':
		o.e = m.add(c.tag)
	case 'R':
		o.e = m.remove(c.tag)
	case 'G':
		o.e = m.give(c.tag, c.n)
	case 'S':
		o.e = m.stop(c.tag)
	case 'T':
		o.tag, o.is = m.turn(c.may)
	}
	return o
}

// checkSame asks r for all that it tells, and holds it against m.
func checkSame(t *testing.T, r *credit.Round, m *model) {
	t.Helper()
	if l := r.Tags(); !slices.Equal(l, m.tags()) {
		t.Fatalf("the tags are %q, of %v", l, m)
	}
	for _, tag := range append(m.tags(), "", "a", "b", "c", "d", "aa", "A", "\x00", long(41)) {
		n, e := r.Credit(tag)
		if want, no := m.creditOf(tag); n != want || e != no {
			t.Fatalf("the credit of %q is %d %d, of %v", tag, n, e, m)
		}
	}
}

// checkOrder asks r for the order of its turns, which changes it.
func checkOrder(t *testing.T, r *credit.Round, m *model) {
	t.Helper()
	tags := m.tags()
	want := []string{}
	for _, i := range m.order() {
		want = append(want, m.rows[i].tag)
	}
	for _, tag := range tags {
		r.Give(tag, endless)
	}
	for range 2 {
		for _, tag := range want {
			if got, is := r.Turn(tags); got != tag || !is {
				t.Fatalf("%q %v instead of %q, of %v", got, is, tag, m)
			}
		}
	}
}

// pair is a round with its model: each call is made of both, and what they answer is held against each other.
type pair struct {
	t     *testing.T
	r     *credit.Round
	m     *model
	calls []call
}

func newPair(t *testing.T) *pair {
	t.Helper()
	p := &pair{t: t, r: credit.New(), m: &model{}}
	p.check()
	return p
}

// check holds all that can be seen of the round against the model: whose turn it is, too, of a round of which the same calls were made.
func (p *pair) check() {
	p.t.Helper()
	checkSame(p.t, p.r, p.m)
	other := credit.New()
	for _, c := range p.calls {
		c.of(other)
	}
	checkSame(p.t, other, p.m)
	checkOrder(p.t, other, p.m)
}

// do makes a call of both.
func (p *pair) do(c call) outcome {
	p.t.Helper()
	got, want := c.of(p.r), c.ofModel(p.m)
	if got != want {
		p.t.Fatalf("%v of %c %q %d %q, instead of %v; then it is %v", got, c.what, c.tag, c.n, c.may, want, p.m)
	}
	p.calls = append(p.calls, c)
	return got
}

// is makes a call that returns an error, and holds that against the one that the test names.
func (p *pair) is(c call, want api.Errno) {
	p.t.Helper()
	if got := p.do(c); got.e != want {
		p.t.Fatalf("%d of %c %q %d instead of %d", got.e, c.what, c.tag, c.n, want)
	}
	p.check()
}

func (p *pair) add(tag string, want api.Errno) {
	p.t.Helper()
	p.is(call{what: 'A', tag: tag}, want)
}

func (p *pair) remove(tag string, want api.Errno) {
	p.t.Helper()
	p.is(call{what: 'R', tag: tag}, want)
}

func (p *pair) give(tag string, n uint32, want api.Errno) {
	p.t.Helper()
	p.is(call{what: 'G', tag: tag, n: n}, want)
}

func (p *pair) stop(tag string, want api.Errno) {
	p.t.Helper()
	p.is(call{what: 'S', tag: tag}, want)
}

// credit asks for a credit that is there.
func (p *pair) credit(tag string, want uint32) {
	p.t.Helper()
	if n, e := p.r.Credit(tag); n != want || e != api.OK {
		p.t.Fatalf("the credit of %q is %d %d instead of %d", tag, n, e, want)
	}
}

// turn serves one of those whose tags are given; the empty string stands for none.
func (p *pair) turn(want string, may ...string) {
	p.t.Helper()
	got := p.do(call{what: 'T', may: may})
	if got.tag != want || got.is != (want != "") {
		p.t.Fatalf("%q %v of %q instead of %q", got.tag, got.is, may, want)
	}
	p.check()
}

// tags asks for all tags.
func (p *pair) tags(want ...string) {
	p.t.Helper()
	if l := p.r.Tags(); !slices.Equal(l, want) {
		p.t.Fatalf("%q instead of %q", l, want)
	}
}
