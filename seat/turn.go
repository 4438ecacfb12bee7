package seat

import "diwan/api"

// turn is one that a session wants to have, and has as its seat when it had it.
type turn api.Seat

// own tells whether s is the seat of t's session.
func (t turn) own(s api.Seat) bool { return s.Session == t.Session }

// ahead tells whether t's session stands ahead of that of s.
func (t turn) ahead(s api.Seat) bool { return t.Session < s.Session }

// later tells whether t is behind the turn that s is of.
func (t turn) later(s api.Seat) bool { return t.Seq > s.Seq }

// first tells the index of the first one of l that is so; that behind them all, if none is.
func first(l []api.Seat, so func(api.Seat) bool) int {
	for i, s := range l {
		if so(s) {
			return i
		}
	}
	return len(l)
}
