package raft_test

import (
	"math"

	"diwan/api"
)

// The chapter's words, one by one; what is handed in is copied first.

// plainMay is P11.1's word on May.
func plainMay(r api.Raft) bool {
	switch {
	case r.Nodes < 1 || r.Nodes > 5:
	case r.Me < 1 || r.Me > r.Nodes:
	case r.Wait < 1 || r.Wait > 60:
	case r.Term < 0:
	case r.Vote < 0 || r.Vote > r.Nodes:
	case r.Leader < 0 || r.Leader > r.Nodes:
	case len(r.Log) > 200:
	case r.Commit < 0 || r.Commit > len(r.Log):
	case r.Role != api.Follower && r.Role != api.Candidate && r.Role != api.Leader:
	case len(r.Votes) != r.Nodes || len(r.Next) != r.Nodes || len(r.Match) != r.Nodes:
	case r.Clock < 0:
	default:
		for i, e := range r.Log {
			if e.Term < 1 || e.Term > r.Term || i > 0 && e.Term < r.Log[i-1].Term {
				return false
			}
		}
		return true
	}
	return false
}

// plainTerm is the term of entry i, 0 where there is none.
func plainTerm(l []api.Entry, i int) int {
	for k, e := range l {
		if k+1 == i {
			return e.Term
		}
	}
	return 0
}

// plainHas: is i 0, or is there an entry i of that term?
func plainHas(l []api.Entry, i, term int) bool {
	if i == 0 {
		return true
	}
	return i >= 1 && i <= len(l) && l[i-1].Term == term
}

// plainJoin is l with more behind its entry i, which is there.
func plainJoin(l []api.Entry, i int, more []api.Entry) []api.Entry {
	all := deepLog(l)
	for k, e := range deepLog(more) {
		at := i + k
		if at < len(all) && all[at].Term == e.Term {
			continue
		}
		if at < len(all) {
			all = all[:at]
		}
		all = append(all, e)
	}
	return all
}

// plainNext is up to where a majority has a log, if that is above commit, and of that term.
func plainNext(match []int, l []api.Entry, term, commit int) int {
	to := commit
	for i := max(commit, 0) + 1; i <= len(l); i++ {
		have := 0
		for _, m := range match {
			if m >= i {
				have++
			}
		}
		// Most is the greatest of them that a majority has: no other one will do, though it be of that term.
		above := 0
		for _, m := range match {
			if m > i {
				above++
			}
		}
		if 2*have > len(match) && 2*above <= len(match) && l[i-1].Term == term {
			to = i
		}
	}
	return to
}

func plainYes(votes []bool) int {
	n := 0
	for _, v := range votes {
		if v {
			n++
		}
	}
	return n
}

// plainLetter is a letter of entries to member i.
func plainLetter(r api.Raft, i int) api.Msg {
	next := r.Next[i-1]
	if next > len(r.Log)+1 {
		next = len(r.Log) + 1
	}
	if next < 1 {
		next = 1
	}
	m := api.Msg{Kind: api.Append, From: r.Me, To: i, Term: r.Term, Index: next - 1, LogTerm: plainTerm(r.Log, next-1), Commit: r.Commit}
	for k := next; k <= len(r.Log) && len(m.Entries) < 4; k++ {
		m.Entries = append(m.Entries, r.Log[k-1])
	}
	return m
}

func plainToAll(r api.Raft) []api.Msg {
	var out []api.Msg
	for _, i := range others(r) {
		out = append(out, plainLetter(r, i))
	}
	return out
}

// plainLead is "to lead".
func plainLead(r api.Raft) (api.Raft, []api.Msg) {
	r.Role, r.Leader, r.Clock = api.Leader, r.Me, 0
	for i := range r.Nodes {
		r.Next[i] = len(r.Log) + 1
		r.Match[i] = 0
		if i+1 == r.Me {
			r.Match[i] = len(r.Log)
		}
	}
	if len(r.Log) >= 200 {
		return r, plainToAll(r)
	}
	return plainAdd(r, api.Entry{Seal: true})
}

// plainAdd is P11.4, of a Leader whose log is not full.
func plainAdd(r api.Raft, e api.Entry) (api.Raft, []api.Msg) {
	e.Term = r.Term
	e.T = deepTxn(e.T)
	r.Log = append(r.Log, e)
	r.Match[r.Me-1] = len(r.Log)
	r.Commit = plainNext(r.Match, r.Log, r.Term, r.Commit)
	return r, plainToAll(r)
}

// plainTick is P11.2.
func plainTick(r api.Raft) (api.Raft, []api.Msg) {
	r = deep(r)
	if !plainMay(r) {
		return r, nil
	}
	if r.Role == api.Leader {
		return r, plainToAll(r)
	}
	if r.Clock < math.MaxInt && r.Clock+1 < r.Wait {
		r.Clock++
		return r, nil
	}
	r.Term++
	r.Role, r.Vote, r.Leader, r.Clock = api.Candidate, r.Me, 0, 0
	for i := range r.Votes {
		r.Votes[i] = i+1 == r.Me
	}
	if r.Nodes == 1 {
		return plainLead(r)
	}
	var out []api.Msg
	for _, i := range others(r) {
		out = append(out, api.Msg{Kind: api.AskVote, From: r.Me, To: i, Term: r.Term, Index: len(r.Log), LogTerm: plainTerm(r.Log, len(r.Log))})
	}
	return r, out
}

// plainPropose is P11.4.
func plainPropose(r api.Raft, e api.Entry) (api.Raft, []api.Msg, bool) {
	r = deep(r)
	if !plainMay(r) || r.Role != api.Leader || len(r.Log) == 200 {
		return r, nil, false
	}
	r, out := plainAdd(r, e)
	return r, out, true
}

// plainTake is P11.3.
func plainTake(r api.Raft, m api.Msg) (api.Raft, []api.Msg) {
	r, m = deep(r), deepMsg(m)
	if !plainMay(r) || m.Kind >= 5 || m.From < 1 || m.From > r.Nodes || m.To < 1 || m.To > r.Nodes || m.From == m.To || m.To != r.Me {
		return r, nil
	}
	if m.Term > r.Term {
		r.Role, r.Term, r.Vote, r.Leader = api.Follower, m.Term, 0, 0
		clear(r.Votes)
	}
	late := m.Term < r.Term
	answer := api.Msg{From: r.Me, To: m.From, Term: r.Term}
	switch m.Kind {
	case api.AskVote:
		answer.Kind = api.Vote
		if !late && (r.Vote == 0 || r.Vote == m.From) {
			last := plainTerm(r.Log, len(r.Log))
			answer.OK = m.LogTerm > last || m.LogTerm == last && m.Index >= len(r.Log)
		}
		if answer.OK {
			r.Vote, r.Clock = m.From, 0
		}
		return r, []api.Msg{answer}
	case api.Vote:
		if late || r.Role != api.Candidate || !m.OK {
			return r, nil
		}
		r.Votes[m.From-1] = true
		if 2*plainYes(r.Votes) > r.Nodes {
			return plainLead(r)
		}
		return r, nil
	case api.Append:
		answer.Kind = api.Appended
		if late {
			return r, []api.Msg{answer}
		}
		if r.Role == api.Leader {
			return r, nil
		}
		return plainFollow(r, m, answer)
	case api.Appended:
		if late || r.Role != api.Leader {
			return r, nil
		}
		return plainAnswered(r, m)
	}
	return r, nil
}

func plainFollow(r api.Raft, m, answer api.Msg) (api.Raft, []api.Msg) {
	r.Role, r.Leader, r.Clock = api.Follower, m.From, 0
	if !plainHas(r.Log, m.Index, m.LogTerm) {
		if m.Index > 0 {
			answer.Index = min(m.Index-1, len(r.Log))
		}
		return r, []api.Msg{answer}
	}
	log := plainJoin(r.Log, m.Index, m.Entries)
	if len(log) > 200 {
		return r, []api.Msg{answer}
	}
	r.Log = log
	answer.OK, answer.Index = true, m.Index+len(m.Entries)
	r.Commit = max(r.Commit, min(m.Commit, answer.Index))
	return r, []api.Msg{answer}
}

func plainAnswered(r api.Raft, m api.Msg) (api.Raft, []api.Msg) {
	i := m.From - 1
	if !m.OK {
		next := r.Next[i] - 1
		if m.Index < math.MaxInt && m.Index+1 < next {
			next = m.Index + 1
		}
		if next < r.Match[i]+1 {
			next = r.Match[i] + 1
		}
		r.Next[i] = next
		return r, []api.Msg{plainLetter(r, m.From)}
	}
	if m.Index > r.Match[i] {
		r.Match[i] = m.Index
	}
	if r.Match[i] > len(r.Log) {
		r.Match[i] = len(r.Log)
	}
	r.Next[i] = r.Match[i] + 1
	r.Commit = plainNext(r.Match, r.Log, r.Term, r.Commit)
	if r.Next[i]-1 < len(r.Log) {
		return r, []api.Msg{plainLetter(r, m.From)}
	}
	return r, nil
}
