package raft_test

import (
	"testing"

	"diwan/api"
	"diwan/raft"
)

// wantPropose holds Propose to what is asked for, and that to the chapter's words.
func wantPropose(t *testing.T, what string, r api.Raft, e api.Entry, wantR api.Raft, wantOut []api.Msg, wantOK bool) {
	t.Helper()
	plainR, plainOut, plainOK := plainPropose(r, e)
	want(t, what+", in plain words", plainR, plainOut, wantR, wantOut)
	wasR, wasE := deep(r), e
	wasE.T = deepTxn(e.T)
	got, out, ok := raft.Propose(r, e)
	want(t, what, got, out, wantR, wantOut)
	want(t, what+": what was handed in", api.Raft{Log: append(list(r.Log), e), Votes: r.Votes, Next: r.Next, Match: r.Match}, nil, api.Raft{Log: append(list(wasR.Log), wasE), Votes: wasR.Votes, Next: wasR.Next, Match: wasR.Match}, nil)
	if ok != wantOK || plainOK != wantOK {
		t.Errorf("%s: %v, and in plain words %v, want %v", what, ok, plainOK, wantOK)
	}
}

// TestProposeToNoLeader: no, and the state as it is.
func TestProposeToNoLeader(t *testing.T) {
	for _, role := range []int{api.Follower, api.Candidate} {
		for n := 1; n <= 5; n++ {
			for _, log := range [][]api.Entry{nil, logOf("1a 2b"), longLog(api.MaxLog, 2)} {
				// Who leads another way, or is said to lead, does not.
				r := with(of(1, n, role, 4, log), func(r *api.Raft) { r.Leader = 1 })
				wantPropose(t, "to no Leader", r, api.Entry{T: carried('n')}, r, nil, false)
			}
		}
	}
}

// TestProposeToFullLog: no; the last place is room enough for one.
func TestProposeToFullLog(t *testing.T) {
	for n := 1; n <= 5; n++ {
		r := of(1, n, api.Leader, 4, longLog(api.MaxLog, 3))
		wantPropose(t, "MaxLog", r, api.Entry{T: carried('n')}, r, nil, false)
		wantPropose(t, "MaxLog, a Seal", r, seal(0), r, nil, false)

		r = of(1, n, api.Leader, 4, longLog(api.MaxLog-1, 3))
		full, out, ok := raft.Propose(r, api.Entry{T: carried('n')})
		if !ok || len(full.Log) != api.MaxLog || len(out) != n-1 {
			t.Errorf("of %d, the last place: %v, %d entries, %d letters", n, ok, len(full.Log), len(out))
		}
		wantPropose(t, "the last place", r, api.Entry{T: carried('n')}, full, out, true)
		wantPropose(t, "behind the last place", full, api.Entry{T: carried('m')}, full, nil, false)
	}
}

// TestProposeToOne: committed at once, with all that stands ahead of it.
func TestProposeToOne(t *testing.T) {
	for _, x := range []struct {
		log    string
		commit int
		e      api.Entry
		want   string
		wants  int
	}{
		{"", 0, api.Entry{T: carried('n')}, "4n", 1},
		{"", 0, api.Entry{Seal: true}, "4S", 1},
		{"", 0, api.Entry{Term: 99, T: carried('n')}, "4n", 1}, // of its own term, whatever it says
		{"1a", 0, api.Entry{Term: -3, T: carried('n')}, "1a 4n", 2},
		{"1a 2b 4S", 3, api.Entry{Term: 1, T: carried('n')}, "1a 2b 4S 4n", 4},
		{"1a 2b 4S", 1, api.Entry{T: carried('n')}, "1a 2b 4S 4n", 4},
	} {
		r := with(of(1, 1, api.Leader, 4, logOf(x.log)), func(r *api.Raft) { r.Commit, r.Clock = x.commit, 3 })
		led := with(r, func(r *api.Raft) {
			r.Log, r.Commit = logOf(x.want), x.wants
			r.Match[0] = x.wants
		})
		wantPropose(t, "to one: "+x.log, r, x.e, led, nil, true)
	}
}

// TestProposeToMany: a letter of entries to all, each from where it is; and nothing is committed that a majority has not.
func TestProposeToMany(t *testing.T) {
	log := logOf("1S 1a 2b 2c 4S")
	now := logOf("1S 1a 2b 2c 4S 4n")
	letter := func(to, index, logTerm, n int) api.Msg {
		return api.Msg{Kind: api.Append, From: 2, To: to, Term: 4, Commit: 1, Index: index, LogTerm: logTerm, Entries: now[index : index+n]}
	}
	for _, x := range []struct {
		what string
		next []int
		want []api.Msg
	}{
		{"all had it all", []int{6, 6, 6}, []api.Msg{letter(1, 5, 4, 1), letter(3, 5, 4, 1)}},
		{"one lacks some", []int{4, 6, 6}, []api.Msg{letter(1, 3, 2, 3), letter(3, 5, 4, 1)}},
		{"more lack than go with one letter", []int{2, 6, 1}, []api.Msg{letter(1, 1, 1, 4), letter(3, 0, 0, 4)}},
		{"as many as go", []int{3, 6, 3}, []api.Msg{letter(1, 2, 1, 4), letter(3, 2, 1, 4)}},
		{"below 1 and beyond the log", []int{-7, 6, 9}, []api.Msg{letter(1, 0, 0, 4), letter(3, 6, 4, 0)}},
		{"at its new end", []int{7, 6, 8}, []api.Msg{letter(1, 6, 4, 0), letter(3, 6, 4, 0)}},
	} {
		r := with(of(2, 3, api.Leader, 4, log), func(r *api.Raft) {
			r.Commit, r.Clock, r.Match[0] = 1, 6, 2
			copy(r.Next, x.next)
		})
		led := with(r, func(r *api.Raft) { r.Log, r.Match[1] = now, 6 })
		wantPropose(t, x.what, r, api.Entry{T: carried('n')}, led, x.want, true)
	}
}

// TestProposeCommits where the others' places say so by now: Commit is asked anew, and the letters tell it.
func TestProposeCommits(t *testing.T) {
	for _, x := range []struct {
		match []int
		want  int
	}{
		{[]int{0, 3, 0}, 1},
		{[]int{2, 3, 0}, 1}, // entry 2 is of another term
		{[]int{3, 3, 0}, 3},
		{[]int{3, 0, 3}, 3},
		{[]int{4, 3, 0}, 4}, // two have the new one
		{[]int{0, 3, 9}, 4},
	} {
		r := with(of(2, 3, api.Leader, 4, logOf("1a 1b 4S")), func(r *api.Raft) { r.Commit, r.Match = 1, x.match })
		led := with(r, func(r *api.Raft) { r.Log, r.Match[1], r.Commit = logOf("1a 1b 4S 4n"), 4, x.want })
		wantPropose(t, "Commit", r, api.Entry{T: carried('n')}, led, []api.Msg{
			{Kind: api.Append, From: 2, To: 1, Term: 4, Index: 3, LogTerm: 4, Commit: x.want, Entries: logOf("4n")},
			{Kind: api.Append, From: 2, To: 3, Term: 4, Index: 3, LogTerm: 4, Commit: x.want, Entries: logOf("4n")},
		}, true)
	}
}

// TestProposeToWhatMayNotBe: no, the state as it is, and no letters.
func TestProposeToWhatMayNotBe(t *testing.T) {
	for _, x := range ones() {
		r := with(likely(), x.turn)
		if !plainMay(r) {
			wantPropose(t, x.what, r, api.Entry{T: carried('n')}, r, nil, false)
			continue
		}
		got, out, ok := raft.Propose(r, api.Entry{T: carried('n')})
		wantR, wantOut, wantOK := plainPropose(r, api.Entry{T: carried('n')})
		want(t, x.what, got, out, wantR, wantOut)
		if ok != wantOK {
			t.Errorf("%s: %v", x.what, ok)
		}
	}
}
