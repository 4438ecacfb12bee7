package raft

import (
	"diwan/api"
	"diwan/ulog"
)

// take is of a letter of this layer, from another member.
func (m *member) take(l api.Msg) {
	if l.Term > m.Term {
		m.turn(l.Term)
	}
	late, now := byKind(l.Kind)
	if l.Term < m.Term {
		late(m, l)
		return
	}
	now(m, l)
}

// turn is of a term above, whoever tells of it: what was said in the one below counts no more.
func (m *member) turn(term int) {
	m.Role, m.Term, m.Vote, m.Leader = api.Follower, term, nobody, nobody
	clear(m.Votes)
}

// byKind tells what is to be done of a letter of a term below, and of one of the term that is now.
func byKind(kind int) (late, now func(*member, api.Msg)) {
	switch kind {
	case api.AskVote:
		return (*member).denyVote, (*member).judge
	case api.Vote:
		return (*member).passOver, (*member).takeVote
	case api.Append:
		return (*member).denyEntries, (*member).takeEntries
	case api.Appended:
		return (*member).passOver, (*member).takeAppended
	default:
		return (*member).passOver, (*member).passOver
	}
}

func (m *member) denyVote(l api.Msg) {
	m.send(l.From, api.Msg{Kind: api.Vote})
}

func (m *member) denyEntries(l api.Msg) {
	m.send(l.From, api.Msg{Kind: api.Appended})
}

// judge gives its vote, or not.
func (m *member) judge(l api.Msg) {
	yes := (m.Vote == nobody || m.Vote == l.From) && ulog.Newer(m.Log, l.Index, l.LogTerm)
	if yes {
		m.Vote, m.Clock = l.From, 0
	}
	m.send(l.From, api.Msg{Kind: api.Vote, OK: yes})
}

func (m *member) takeVote(l api.Msg) { m.inRole().vote(l) }

func (m *member) takeEntries(l api.Msg) { m.inRole().entries(l) }

func (m *member) takeAppended(l api.Msg) { m.inRole().appended(l) }
