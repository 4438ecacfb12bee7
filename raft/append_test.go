package raft_test

import (
	"fmt"
	"math"
	"testing"

	"diwan/api"
	"diwan/raft"
)

// TestAppend: where the log has the entry ahead, what comes is joined to it; where it has not, it is told so.
func TestAppend(t *testing.T) {
	const log = "1a 2b 2c 4d 4e"
	for _, x := range []struct {
		what           string
		log            string
		commit         int
		index, logTerm int
		more           string
		tells          int

		ok         bool
		want       string
		wants, end int
	}{
		// it has the entry ahead: nothing comes, what it has already, fewer, as many, what goes on, what is unlike
		{"nothing", log, 1, 5, 4, "", 0, true, log, 1, 5},
		{"nothing, in the midst", log, 1, 2, 2, "", 0, true, log, 1, 2},
		{"nothing, ahead of all", log, 1, 0, 0, "", 0, true, log, 1, 0},
		{"ahead of all, of whatever term", log, 1, 0, 77, "", 0, true, log, 1, 0},
		{"what it has, fewer", log, 1, 1, 1, "2x 2y", 0, true, log, 1, 3},
		{"what it has, as many", log, 1, 1, 1, "2x 2y 4z 4u", 0, true, log, 1, 5},
		{"what it has, and on", log, 1, 3, 2, "4z 4u 5v", 0, true, log + " 5v", 1, 6},
		{"what goes on", log, 1, 5, 4, "4v 5w 5x 5y", 0, true, log + " 4v 5w 5x 5y", 1, 9},
		{"more than go with one letter", log, 1, 5, 4, "5v 5w 5x 5y 5z", 0, true, log + " 5v 5w 5x 5y 5z", 1, 10},
		{"unlike at once", log, 1, 2, 2, "5x", 0, true, "1a 2b 5x", 1, 3},
		{"unlike at last", log, 1, 2, 2, "2x 4y 5z", 0, true, "1a 2b 2c 4d 5z", 1, 5},
		{"unlike in the midst", log, 1, 2, 2, "2x 5y 5z 5u", 0, true, "1a 2b 2c 5y 5z 5u", 1, 6},
		{"unlike from the first on", log, 0, 0, 0, "3x 5y", 0, true, "3x 5y", 0, 2},
		{"to no log", "", 0, 0, 0, "1x 5y", 0, true, "1x 5y", 0, 2},
		{"nothing to no log", "", 0, 0, 0, "", 9, true, "", 0, 0},
		// Commit rises to what is told, no further than the letter goes, and never falls
		{"Commit below", log, 3, 5, 4, "", 2, true, log, 3, 5},
		{"Commit alike", log, 3, 5, 4, "", 3, true, log, 3, 5},
		{"Commit above", log, 3, 5, 4, "", 4, true, log, 4, 5},
		{"Commit of all", log, 3, 5, 4, "", 5, true, log, 5, 5},
		{"Commit beyond the letter", log, 3, 5, 4, "", 6, true, log, 5, 5},
		{"Commit beyond all", log, 3, 5, 4, "5v", math.MaxInt, true, log + " 5v", 6, 6},
		{"Commit beyond the letter, which is within the log", log, 1, 2, 2, "2x", 5, true, log, 3, 3},
		{"Commit beyond a letter of nothing", log, 1, 2, 2, "", 5, true, log, 2, 2},
		{"Commit beyond a letter below it", log, 3, 1, 1, "2x", 5, true, log, 3, 2},
		{"Commit below 0", log, 3, 5, 4, "", -1, true, log, 3, 5},
		{"Commit as low as can be", log, 0, 5, 4, "", math.MinInt, true, log, 0, 5},
		{"Commit of what is new", log, 3, 5, 4, "5v 5w", 7, true, log + " 5v 5w", 7, 7},
		{"Commit of some of what is new", log, 3, 5, 4, "5v 5w", 6, true, log + " 5v 5w", 6, 7},
		// it lacks the entry ahead: the log is shorter, by one, by more
		{"one beyond", log, 1, 6, 4, "5v", 9, false, log, 1, 5},
		{"two beyond", log, 1, 7, 4, "5v", 9, false, log, 1, 5},
		{"many beyond", log, 1, 200, 4, "", 9, false, log, 1, 5},
		{"as far as can be", log, 1, math.MaxInt, 4, "5v", 9, false, log, 1, 5},
		{"one beyond, of term 0", log, 1, 6, 0, "", 9, false, log, 1, 5},
		{"beyond no log", "", 0, 1, 1, "5v", 9, false, "", 0, 0},
		{"far beyond no log", "", 0, 9, 1, "5v", 9, false, "", 0, 0},
		// it has another one there
		{"another term, the last", log, 1, 5, 5, "5v", 9, false, log, 1, 4},
		{"another term, in the midst", log, 1, 3, 1, "5v", 9, false, log, 1, 2},
		{"another term, the first", log, 0, 1, 2, "5v", 9, false, log, 0, 0},
		{"of term 0", log, 1, 5, 0, "5v", 9, false, log, 1, 4},
		{"of a term below 0", log, 1, 5, -4, "5v", 9, false, log, 1, 4},
		{"of a term that is as great in its low bits", log, 1, 5, 1<<32 + 4, "5v", 9, false, log, 1, 4},
		// there is no such place
		{"below 0", log, 1, -1, 0, "5v", 9, false, log, 1, 0},
		{"below 0, of a term", log, 1, -1, 4, "5v", 9, false, log, 1, 0},
		{"as low as can be", log, 1, math.MinInt, 4, "5v", 9, false, log, 1, 0},
		{"nearly as low as can be", log, 1, math.MinInt + 1, 4, "5v", 9, false, log, 1, 0},
	} {
		for _, from := range []int{1, 3} {
			for _, role := range []int{api.Follower, api.Candidate} {
				r := with(of(2, 3, role, 5, logOf(x.log)), func(r *api.Raft) {
					r.Clock, r.Leader, r.Commit = 7, 2, x.commit
					r.Votes[0] = true
				})
				m := api.Msg{Kind: api.Append, From: from, To: 2, Term: 5, Index: x.index, LogTerm: x.logTerm, Commit: x.tells, Entries: logOf(x.more)}
				told := with(r, func(r *api.Raft) {
					r.Role, r.Leader, r.Clock = api.Follower, from, 0
					r.Log, r.Commit = logOf(x.want), x.wants
				})
				wantTake(t, x.what, r, m, told, letters(api.Msg{Kind: api.Appended, From: 2, To: from, Term: 5, OK: x.ok, Index: x.end}))
			}
		}
	}
}

// TestAppendTwice is Append once.
func TestAppendTwice(t *testing.T) {
	r := of(2, 3, api.Follower, 5, logOf("1a 2b 2c 4d"))
	m := api.Msg{Kind: api.Append, From: 1, To: 2, Term: 5, Index: 2, LogTerm: 2, Commit: 3, Entries: logOf("5x 5y")}
	once, out := raft.Take(r, m)
	wantTake(t, "twice", once, m, once, out)
	// What comes late takes nothing away that has come since.
	later := with(once, func(r *api.Raft) { r.Log = append(r.Log, logOf("5z")...) })
	wantTake(t, "late", later, m, later, out)
}

// TestAppendBeyondMaxLog: the log stays as it is, and who sent it is told no; though it is followed.
func TestAppendBeyondMaxLog(t *testing.T) {
	for _, x := range []struct {
		has, index, more int
		ok               bool
	}{
		{196, 196, 3, true},
		{196, 196, 4, true},
		{196, 196, 5, false},
		{199, 199, 1, true},
		{199, 199, 2, false},
		{200, 200, 0, true},
		{200, 200, 1, false},
		{200, 199, 1, true},
		{200, 199, 2, false},
		{200, 196, 4, true},
		{200, 197, 4, false},
		{0, 0, 200, true},
		{0, 0, 201, false},
		{100, 50, 150, true},
		{100, 50, 151, false},
		{200, 0, 200, true},
		{200, 0, 201, false},
		{3, 3, 5000, false},
	} {
		for _, term := range []int{4, 5} { // what it has already, and what is unlike
			r := with(of(2, 3, api.Candidate, 5, longLog(x.has, 4)), func(r *api.Raft) { r.Commit, r.Clock = x.has/4, 2 })
			m := api.Msg{Kind: api.Append, From: 1, To: 2, Term: 5, Index: x.index, LogTerm: 4, Commit: 300, Entries: longLog(x.more, term)}
			told := with(r, func(r *api.Raft) { r.Role, r.Leader, r.Clock = api.Follower, 1, 0 })
			answer := api.Msg{Kind: api.Appended, From: 2, To: 1, Term: 5}
			// What is unlike leaves no more of the log than stands ahead of it.
			if x.ok {
				told.Log = plainJoin(r.Log, x.index, m.Entries)
				told.Commit = min(300, x.index+x.more)
				answer.OK, answer.Index = true, x.index+x.more
			}
			wantTake(t, fmt.Sprintf("%+v of term %d", x, term), r, m, told, letters(answer))
		}
	}
}

// TestAppendOfAll: all short logs, behind each place all short letters, with each Commit.
func TestAppendOfAll(t *testing.T) {
	rows := [][]int{nil, {1}, {2}, {3}, {1, 1}, {1, 2}, {2, 2}, {2, 3}, {1, 1, 1}, {1, 2, 2}, {1, 2, 3}, {2, 2, 3}, {3, 3, 3}}
	log := func(terms []int, first byte) []api.Entry {
		var l []api.Entry
		for i, term := range terms {
			l = append(l, api.Entry{Term: term, T: carried(first + byte(i))})
		}
		return l
	}
	for _, a := range rows {
		for _, b := range rows {
			for index := -1; index <= 4; index++ {
				for logTerm := range 4 {
					for commit := range len(a) + 1 {
						r := with(of(1, 2, api.Follower, 3, log(a, 'a')), func(r *api.Raft) { r.Commit = commit })
						wantPlain(t, "Append", r, api.Msg{Kind: api.Append, From: 2, To: 1, Term: 3, Index: index, LogTerm: logTerm, Commit: 2, Entries: log(b, 'p')})
					}
				}
			}
		}
		if t.Failed() {
			return
		}
	}
}
