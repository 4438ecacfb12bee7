package raft

import (
	"diwan/api"
	"diwan/ballot"
	"diwan/ulog"
)

const nobody = 0

// member is one of a group while it has its turn, with the letters that it sends in it.
type member struct {
	api.Raft
	letters []api.Msg
}

// memberOf tells r as a member whose memory is its own, so that it can be changed.
func memberOf(r api.Raft) *member {
	r.Log = copied(r.Log)
	r.Votes = append([]bool(nil), r.Votes...)
	r.Next = append([]int(nil), r.Next...)
	r.Match = append([]int(nil), r.Match...)
	return &member{Raft: r}
}

// copied tells l in memory of its own.
func copied(l []api.Entry) []api.Entry {
	return ulog.Join(l, 0, nil)
}

// isFor tells whether l is from another member to m.
func (m *member) isFor(l api.Msg) bool {
	return within(l.From, 1, m.Nodes) && l.From != m.Me && l.To == m.Me
}

func (m *member) send(to int, l api.Msg) {
	l.From, l.To, l.Term = m.Me, to, m.Term
	m.letters = append(m.letters, l)
}

// toAll has send turn to each other member, rising.
func (m *member) toAll(send func(to int)) {
	for to := 1; to <= m.Nodes; to++ {
		if to != m.Me {
			send(to)
		}
	}
}

func (m *member) askVote(to int) {
	last := len(m.Log)
	m.send(to, api.Msg{Kind: api.AskVote, Index: last, LogTerm: ulog.Term(m.Log, last)})
}

// sendEntries sends a letter of entries.
func (m *member) sendEntries(to int) {
	// A Next that was never set, or that was handed in, may be outside of the log.
	ahead := min(max(m.Next[to-1], 1), len(m.Log)+1) - 1
	end := min(ahead+api.MaxSend, len(m.Log))
	m.send(to, api.Msg{
		Kind: api.Append, Index: ahead, LogTerm: ulog.Term(m.Log, ahead), Commit: m.Commit,
		Entries: copied(m.Log[ahead:end]),
	})
}

func (m *member) elected() bool {
	return ballot.Many(m.Votes) >= ballot.Majority(m.Nodes)
}

func (m *member) lead() {
	m.Role, m.Leader, m.Clock = api.Leader, m.Me, 0
	for i := range m.Nodes {
		m.Next[i], m.Match[i] = len(m.Log)+1, 0
	}
	m.Match[m.Me-1] = len(m.Log)
	// What is of terms ahead is committed by an entry of its own alone: so it begins by one.
	if !m.add(api.Entry{Seal: true}) {
		m.sendAll()
	}
}

// commit goes as far as a majority has the log.
func (m *member) commit() {
	m.Commit = ballot.Next(m.Match, m.Log, m.Term, m.Commit)
}
