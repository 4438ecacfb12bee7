package ulog

import (
	"slices"

	"diwan/api"
)

// entry is what is held against another one.
type entry api.Entry

func (e entry) sameTerm(other entry) bool {
	return e.Term == other.Term
}

func (e entry) same(other entry) bool {
	return e.sameTerm(other) && e.Seal == other.Seal &&
		e.T.Session == other.T.Session && e.T.Seq == other.T.Seq &&
		slices.Equal(e.T.Reads, other.T.Reads) && slices.Equal(e.T.Writes, other.T.Writes)
}

// copied tells e in memory of its own.
func (e entry) copied() api.Entry {
	e.T.Reads = append([]api.Read(nil), e.T.Reads...)
	e.T.Writes = append([]api.Write(nil), e.T.Writes...)
	return api.Entry(e)
}

// there tells whether l has an entry i.
func there(l []api.Entry, i int) bool {
	return 1 <= i && i <= len(l)
}

// front tells how many of a, from its first one on, are such with those of b at their places.
func front(a, b []api.Entry, are func(entry, entry) bool) int {
	n := min(len(a), len(b))
	for k := range n {
		if !are(entry(a[k]), entry(b[k])) {
			return k
		}
	}
	return n
}

// copied tells one list behind the other, in memory of its own.
func copied(lists ...[]api.Entry) []api.Entry {
	var all []api.Entry
	for _, l := range lists {
		for _, e := range l {
			all = append(all, entry(e).copied())
		}
	}
	return all
}
