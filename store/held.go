package store

import (
	"slices"

	"diwan/api"
	"diwan/chain"
)

// held is a key and what it was; of a key that a store has no chain of, that is nothing.
type held api.Chain

func (h held) name() string { return h.Key }

// may tells whether h has versions, such as may be. Its key is asked with the others.
func (h held) may() bool {
	return len(h.L) > 0 && chain.May(h.L)
}

func (h held) is(k string) bool { return h.Key == k }

func (h held) above(k string) bool { return h.Key > k }

// asOf tells what h was as of position pos.
func (h held) asOf(pos int) api.Read {
	v, ok := chain.At(h.L, pos)
	return api.Read{Key: h.Key, Version: v.Pos, Val: v.Val, There: ok && !v.Gone}
}

// copied tells h in memory of its own.
func (h held) copied() api.Chain {
	h.L = append([]api.Version(nil), h.L...)
	return api.Chain(h)
}

// each tells what tell says of each of l.
func each[T any](l []api.Chain, tell func(held) T) []T {
	var all []T
	for _, c := range l {
		all = append(all, tell(held(c)))
	}
	return all
}

// first tells the index of the first one of l that is so to k; that behind them all, if none is.
func first(l []api.Chain, k string, so func(held, string) bool) int {
	for i, c := range l {
		if so(held(c), k) {
			return i
		}
	}
	return len(l)
}

// under tells what l has of k.
func under(l []api.Chain, k string) held {
	i := first(l, k, held.is)
	if i == len(l) {
		return held{Key: k}
	}
	return held(l[i])
}

// add tells l, to which it writes, with v behind what k was.
func add(l []api.Chain, k string, v api.Version) []api.Chain {
	if i := first(l, k, held.is); i < len(l) {
		l[i].L = chain.Add(l[i].L, v)
		return l
	}
	begun := chain.Add(nil, v)
	// A version that comes too early for any chain begins none: one of no versions may not be.
	if len(begun) == 0 {
		return l
	}
	return slices.Insert(l, first(l, k, held.above), api.Chain{Key: k, L: begun})
}

// same tells whether a and b are alike in all.
func same(a, b api.Chain) bool {
	return a.Key == b.Key && slices.Equal(a.L, b.L)
}

// own tells s in memory of its own.
func own(s api.Store) api.Store {
	s.Chains = each(s.Chains, held.copied)
	return s
}
