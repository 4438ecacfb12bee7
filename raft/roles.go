package raft

import (
	"diwan/api"
	"diwan/ulog"
)

// duties are what a member does in its role.
type duties struct {
	tick     func()
	vote     func(api.Msg)
	entries  func(api.Msg)
	appended func(api.Msg)
	propose  func(api.Entry) bool
}

// inRole tells the duties of the role that m has by now: a letter may have turned it.
func (m *member) inRole() duties {
	switch m.Role {
	case api.Leader:
		return duties{tick: m.sendAll, vote: m.passOver, entries: m.passOver, appended: m.answered, propose: m.add}
	case api.Candidate:
		return duties{tick: m.wait, vote: m.count, entries: m.follow, appended: m.passOver, propose: m.refuse}
	default:
		return duties{tick: m.wait, vote: m.passOver, entries: m.follow, appended: m.passOver, propose: m.refuse}
	}
}

func (m *member) passOver(api.Msg) {}

func (m *member) refuse(api.Entry) bool { return false }

func (m *member) sendAll() {
	m.toAll(m.sendEntries)
}

func (m *member) wait() {
	// Not Clock + 1: it may be as great as a number can be.
	if m.Clock < m.Wait-1 {
		m.Clock++
		return
	}
	m.stand()
}

func (m *member) stand() {
	m.Term++
	m.Role, m.Vote, m.Leader, m.Clock = api.Candidate, m.Me, nobody, 0
	clear(m.Votes)
	m.Votes[m.Me-1] = true
	if m.elected() {
		m.lead()
		return
	}
	m.toAll(m.askVote)
}

// count is a Candidate's, of a Vote.
func (m *member) count(l api.Msg) {
	if !l.OK {
		return
	}
	m.Votes[l.From-1] = true
	if m.elected() {
		m.lead()
	}
}

// follow is of who does not lead, of an Append.
func (m *member) follow(l api.Msg) {
	m.Role, m.Leader, m.Clock = api.Follower, l.From, 0
	if !ulog.Has(m.Log, l.Index, l.LogTerm) {
		// Index may be as low as a number can be: one less would be none.
		m.send(l.From, api.Msg{Kind: api.Appended, Index: min(max(l.Index, 1)-1, len(m.Log))})
		return
	}
	log := ulog.Join(m.Log, l.Index, l.Entries)
	if len(log) > api.MaxLog {
		m.send(l.From, api.Msg{Kind: api.Appended})
		return
	}
	end := l.Index + len(l.Entries)
	m.Log, m.Commit = log, max(m.Commit, min(l.Commit, end))
	m.send(l.From, api.Msg{Kind: api.Appended, OK: true, Index: end})
}

// answered is a Leader's, of an Appended.
func (m *member) answered(l api.Msg) {
	if !l.OK {
		m.stepBack(l)
		return
	}
	match := min(max(m.Match[l.From-1], l.Index), len(m.Log))
	m.Match[l.From-1], m.Next[l.From-1] = match, match+1
	m.commit()
	if len(m.Log) > match {
		m.sendEntries(l.From)
	}
}

// stepBack sends entries from further ahead on, to who lacks what is ahead of those that it was sent.
func (m *member) stepBack(l api.Msg) {
	next, match := &m.Next[l.From-1], m.Match[l.From-1]
	// One is put to all three at the end: Index may be as great as a number can be.
	*next = max(min(*next-2, l.Index), match) + 1
	m.sendEntries(l.From)
}

// add is a Leader's, of what is proposed.
func (m *member) add(e api.Entry) bool {
	if len(m.Log) >= api.MaxLog {
		return false
	}
	e.Term = m.Term
	m.Log = ulog.Join(m.Log, len(m.Log), []api.Entry{e})
	m.Match[m.Me-1] = len(m.Log)
	m.commit()
	m.sendAll()
	return true
}
