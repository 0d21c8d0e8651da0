package credit

import "iter"

// seat is the place of a subscription in a ring.
type seat struct {
	tag           string
	credit        credit
	before, after *seat
}

// ring is the seats of a round, closed by a start that is no subscription's: it stands before the first seat and after the last one.
type ring struct {
	start seat
	// Whose turn was last; the start stands for none, as the order of a turn begins after it then.
	served *seat
}

func newRing() *ring {
	g := &ring{}
	g.start.before, g.start.after, g.served = &g.start, &g.start, &g.start
	return g
}

// add puts a seat after the others.
func (g *ring) add(s *seat) {
	s.before, s.after = g.start.before, &g.start
	s.before.after, s.after.before = s, s
}

// remove takes a seat out of the ring.
func (g *ring) remove(s *seat) {
	if g.served == s {
		g.served = s.before
	}
	s.before.after, s.after.before = s.after, s.before
}

// behind goes through the subscriptions' seats once round the ring: from the one after s to s itself.
func (g *ring) behind(s *seat) iter.Seq[*seat] {
	return func(yield func(*seat) bool) {
		for at := s.after; ; at = at.after {
			if at != &g.start && !yield(at) {
				return
			}
			if at == s {
				return
			}
		}
	}
}
