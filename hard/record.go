package hard

import (
	"bytes"
	"slices"

	"diwan/api"
	"diwan/raft"
)

// Kinds of records.
const (
	kindTurn = 1 // term, vote
	kindAdd  = 2 // entry; at: its index
	kindCut  = 3 // at: how many entries stay
)

// record is one change of one log.
type record struct {
	kind, part int
	term, vote int
	at         int
	entry      api.Entry
}

// byKind tells what a record of that kind has behind what each has, and what it does to its member; no: it can't.
func byKind(kind int) (body func(*record, hand), do func(*record, *api.Raft) bool) {
	switch kind {
	case kindTurn:
		return (*record).turnBody, (*record).turn
	case kindAdd:
		return (*record).addBody, (*record).add
	case kindCut:
		return (*record).cutBody, (*record).cut
	default:
		return (*record).noBody, (*record).refuse
	}
}

// goThrough hands r over, one thing behind the other: so who writes and who reads do so in the same order.
func (r *record) goThrough(h hand) {
	h.number(&r.kind)
	h.number(&r.part)
	body, _ := byKind(r.kind)
	body(r, h)
}

func (r *record) turnBody(h hand) {
	h.number(&r.term)
	h.number(&r.vote)
}

func (r *record) addBody(h hand) {
	h.number(&r.at)
	entry(h, &r.entry)
}

func (r *record) cutBody(h hand) {
	h.number(&r.at)
}

func (r *record) noBody(hand) {}

// bytes tells r as bytes, with their sum at the end.
func (r *record) bytes() []byte {
	var w writer
	r.goThrough(&w)
	return append(w.b, sum(w.b))
}

// recordOf tells the record whose bytes are just b.
func recordOf(b []byte) (record, bool) {
	var r record
	r.goThrough(&reader{b: b})
	if !bytes.Equal(r.bytes(), b) {
		return record{}, false
	}
	return r, true
}

// turnOne turns the one of members that r is of.
func (r *record) turnOne(members []api.Raft) bool {
	if r.part < 0 || r.part >= len(members) {
		return false
	}
	m := &members[r.part]
	_, do := byKind(r.kind)
	return do(r, m) && raft.May(*m)
}

func (r *record) turn(m *api.Raft) bool {
	m.Term, m.Vote = r.term, r.vote
	return true
}

func (r *record) add(m *api.Raft) bool {
	if r.at < 1 || r.at > len(m.Log)+1 {
		return false
	}
	m.Log = append(front(m.Log, r.at-1), r.entry)
	return true
}

func (r *record) cut(m *api.Raft) bool {
	if r.at < 0 || r.at > len(m.Log) {
		return false
	}
	m.Log = front(m.Log, r.at)
	return true
}

func (r *record) refuse(*api.Raft) bool { return false }

// front tells the first n of l, which keeps nothing of the others.
func front(l []api.Entry, n int) []api.Entry {
	return slices.Delete(l, n, len(l))
}
