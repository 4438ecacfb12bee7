package raft_test

import (
	"fmt"
	"math"
	"testing"

	"diwan/api"
)

// TestAskVote: the vote is given to who asks first, and to the same again, if its log is at least as new.
func TestAskVote(t *testing.T) {
	log := logOf("1a 2b 2c")
	for _, x := range []struct {
		what           string
		log            []api.Entry
		vote           int
		index, logTerm int
		yes            bool
	}{
		{"as new", log, 0, 3, 2, true},
		{"one entry more", log, 0, 4, 2, true},
		{"many more", log, 0, math.MaxInt, 2, true},
		{"one entry less", log, 0, 2, 2, false},
		{"none, of that term", log, 0, 0, 2, false},
		{"a term above, fewer entries", log, 0, 1, 3, true},
		{"a term above, as many", log, 0, 3, 3, true},
		{"a term above, none", log, 0, 0, 3, true},
		{"a term above, below none", log, 0, math.MinInt, math.MaxInt, true},
		{"a term below, as many", log, 0, 3, 1, false},
		{"a term below, more entries", log, 0, 200, 1, false},
		{"a term of 0", log, 0, 200, 0, false},
		{"a term below 0", log, 0, 200, math.MinInt, false},
		{"of no log to none", nil, 0, 0, 0, true},
		{"of a log to none", nil, 0, 3, 2, true},
		{"of no log", log, 0, 0, 0, false},
		{"of less than no log to none", nil, 0, -1, 0, false},
		{"voted for it", log, 1, 3, 2, true},
		{"voted for it, an older log now", log, 1, 2, 2, false},
		{"voted for another", log, 3, 3, 2, false},
		{"voted for another, a newer log", log, 3, 4, 3, false},
		{"voted for itself", log, 2, 4, 3, false},
	} {
		for role := range 3 {
			r := with(of(2, 3, role, 5, x.log), func(r *api.Raft) {
				r.Vote, r.Leader, r.Clock, r.Commit = x.vote, 3, 6, len(x.log)/2
			})
			m := api.Msg{Kind: api.AskVote, From: 1, To: 2, Term: 5, Index: x.index, LogTerm: x.logTerm}
			told := r
			if x.yes {
				told = with(r, func(r *api.Raft) { r.Vote, r.Clock = 1, 0 })
			}
			answer := letters(api.Msg{Kind: api.Vote, From: 2, To: 1, Term: 5, OK: x.yes})
			wantTake(t, x.what, r, m, told, answer)
			// Asked again, it says the same again.
			wantTake(t, x.what+", again", told, m, told, answer)
			// And who comes next is told no, once there is a vote.
			m.From = 3
			if x.yes {
				wantTake(t, x.what+", the next", told, m, told, letters(api.Msg{Kind: api.Vote, From: 2, To: 3, Term: 5}))
			}
		}
	}
}

// stood is member me of n that has just stood in term 6, with votes of some already.
func stood(me, n int, log []api.Entry, votes ...int) api.Raft {
	r := of(me, n, api.Candidate, 6, log)
	for _, i := range votes {
		r.Votes[i-1] = true
	}
	r.Clock = 3
	return r
}

// ledBy is r, who leads by the vote of one.
func ledBy(r api.Raft, from int) (api.Raft, []api.Msg) {
	log := append(deepLog(r.Log), seal(r.Term))
	full := len(r.Log) == api.MaxLog
	if full {
		log = r.Log
	}
	n := len(r.Log)
	var out []api.Msg
	for _, i := range others(r) {
		out = append(out, api.Msg{Kind: api.Append, From: r.Me, To: i, Term: r.Term, Index: n, LogTerm: plainTerm(r.Log, n), Commit: r.Commit, Entries: log[n:]})
	}
	return with(r, func(r *api.Raft) {
		r.Votes[from-1] = true
		r.Role, r.Leader, r.Clock, r.Log = api.Leader, r.Me, 0, log
		for i := range r.Nodes {
			r.Next[i], r.Match[i] = n+1, 0
		}
		r.Match[r.Me-1] = len(log)
	}), out
}

// TestVote: a majority, of even and odd many, leads; fewer wait.
func TestVote(t *testing.T) {
	for _, x := range []struct {
		me, n int
		votes []int
		from  int
		leads bool
	}{
		{1, 2, nil, 2, true},
		{2, 2, nil, 1, true},
		{1, 3, nil, 2, true},
		{3, 3, nil, 1, true},
		{2, 4, nil, 1, false},
		{2, 4, []int{1}, 3, true},
		{2, 4, []int{1}, 1, false}, // the same one again
		{5, 5, nil, 1, false},
		{5, 5, []int{1}, 1, false},
		{5, 5, []int{1}, 4, true},
		{3, 5, []int{5}, 1, true},
		{3, 5, []int{5}, 5, false},
	} {
		for _, log := range [][]api.Entry{nil, logOf("1a 2b 2c"), longLog(api.MaxLog-1, 4), longLog(api.MaxLog, 4)} {
			what := fmt.Sprintf("member %d of %d with %v, from %d, %d entries", x.me, x.n, x.votes, x.from, len(log))
			r := with(stood(x.me, x.n, log, x.votes...), func(r *api.Raft) {
				r.Commit, r.Leader = len(log)/2, 0
				// Of what it led once nothing counts.
				for i := range r.Nodes {
					r.Next[i], r.Match[i] = 1, len(log)
				}
			})
			m := api.Msg{Kind: api.Vote, From: x.from, To: x.me, Term: 6}
			wantTake(t, what+", no", r, m, r, nil)
			m.OK = true
			if !x.leads {
				wantTake(t, what, r, m, with(r, func(r *api.Raft) { r.Votes[x.from-1] = true }), nil)
				continue
			}
			led, out := ledBy(r, x.from)
			wantTake(t, what, r, m, led, out)
			// Further votes change nothing any more.
			wantTake(t, what+", again", led, m, led, nil)
		}
	}
}

// TestVoteNo: a no takes no vote back.
func TestVoteNo(t *testing.T) {
	r := stood(5, 5, logOf("1a"), 1)
	wantTake(t, "no of who said yes", r, api.Msg{Kind: api.Vote, From: 1, To: 5, Term: 6}, r, nil)
	all := with(r, func(r *api.Raft) { r.Votes = []bool{true, true, true, true, true} })
	wantTake(t, "no, though there is a majority", all, api.Msg{Kind: api.Vote, From: 1, To: 5, Term: 6}, all, nil)
}

// TestVoteOfEachMajority: of each group, whoever has voted already: with one vote more it leads, or not.
func TestVoteOfEachMajority(t *testing.T) {
	for n := 2; n <= 5; n++ {
		for set := range 1 << n {
			for me := 1; me <= n; me++ {
				r := of(me, n, api.Candidate, 6, logOf("1a 2b"))
				for i := range n {
					r.Votes[i] = r.Votes[i] || set>>i&1 == 1
				}
				for _, from := range others(r) {
					wantPlain(t, "a vote", r, api.Msg{Kind: api.Vote, From: from, To: me, Term: 6, OK: true})
				}
			}
		}
	}
}
