package raft_test

import (
	"math"
	"slices"
	"testing"

	"diwan/api"
	"diwan/raft"
)

// wantTick holds Tick to what is asked for, and that to the chapter's words.
func wantTick(t *testing.T, what string, r, wantR api.Raft, wantOut []api.Msg) {
	t.Helper()
	plainR, plainOut := plainTick(r)
	want(t, what+", in plain words", plainR, plainOut, wantR, wantOut)
	was := deep(r)
	got, out := raft.Tick(r)
	want(t, what, got, out, wantR, wantOut)
	want(t, what+": what was handed in", r, nil, was, nil)
}

// asks are the letters of r, who has just stood.
func asks(r api.Raft, index, logTerm int) []api.Msg {
	var l []api.Msg
	for _, i := range others(r) {
		l = append(l, api.Msg{Kind: api.AskVote, From: r.Me, To: i, Term: r.Term, Index: index, LogTerm: logTerm})
	}
	return l
}

// TestTickBelowWait: one more on the Clock, and nothing else.
func TestTickBelowWait(t *testing.T) {
	for _, role := range []int{api.Follower, api.Candidate} {
		for n := 1; n <= 5; n++ {
			for clock := range 9 {
				r := with(of(n, n, role, 3, logOf("1a 3b")), func(r *api.Raft) {
					r.Clock, r.Commit = clock, 1
					r.Leader = (n + 1) % 3 % (n + 1)
				})
				wantTick(t, "below Wait", r, with(r, func(r *api.Raft) { r.Clock++ }), nil)
			}
		}
	}
	r := with(fresh(1, 3, 60), func(r *api.Raft) { r.Clock = 58 })
	wantTick(t, "below the greatest Wait", r, with(r, func(r *api.Raft) { r.Clock = 59 }), nil)
}

// TestTickAtWait: a Follower and a Candidate of many stand, whatever was said in the terms ahead.
func TestTickAtWait(t *testing.T) {
	for _, x := range []struct {
		what           string
		r              api.Raft
		index, logTerm int
	}{
		{"of no log", of(1, 2, api.Follower, 0, nil), 0, 0},
		{"of a log", of(2, 3, api.Follower, 5, logOf("1S 2a 4b")), 3, 4},
		{"of a long log", of(3, 5, api.Follower, 7, longLog(api.MaxLog, 6)), api.MaxLog, 6},
		{"of a log of its term", of(4, 5, api.Follower, 5, logOf("5a")), 1, 5},
		{"of a Leader that is gone", with(of(1, 4, api.Follower, 5, logOf("1a 5b")), func(r *api.Raft) { r.Leader, r.Vote, r.Commit = 3, 2, 2 }), 2, 5},
		{"a Candidate", of(1, 3, api.Candidate, 5, logOf("1a")), 1, 1},
		{"a Candidate with votes", with(of(5, 5, api.Candidate, 5, nil), func(r *api.Raft) { r.Votes = []bool{true, false, false, false, true} }), 0, 0},
		{"a Follower with votes", with(of(2, 5, api.Follower, 5, nil), func(r *api.Raft) { r.Votes = []bool{true, false, true, true, true} }), 0, 0},
		{"who led once", with(of(2, 3, api.Follower, 5, logOf("1a 2b")), func(r *api.Raft) { r.Next, r.Match, r.Vote = []int{3, 2, 1}, []int{2, 1, 0}, 1 }), 2, 2},
	} {
		for _, clock := range []int{9, 10, 11, 60, 1 << 32, math.MaxInt - 1, math.MaxInt} {
			r := with(x.r, func(r *api.Raft) { r.Clock = clock })
			stood := with(r, func(r *api.Raft) {
				r.Role, r.Term, r.Vote, r.Leader, r.Clock = api.Candidate, r.Term+1, r.Me, 0, 0
				r.Votes = make([]bool, r.Nodes)
				r.Votes[r.Me-1] = true
			})
			wantTick(t, x.what, r, stood, asks(stood, x.index, x.logTerm))
		}
	}
}

// TestTickToStand: it stands at its Wait-th tick, and again at each Wait-th one from then on.
func TestTickToStand(t *testing.T) {
	for _, wait := range []int{1, 2, 3, 10, 59, 60} {
		r := fresh(2, 3, wait)
		for n := 1; n <= 3*wait; n++ {
			var out []api.Msg
			r, out = raft.Tick(r)
			role := api.Follower
			if n >= wait {
				role = api.Candidate
			}
			if r.Term != n/wait || r.Clock != n%wait || r.Role != role || (len(out) > 0) != (n%wait == 0) {
				t.Errorf("of Wait %d, tick %d: %s%s", wait, n, briefRaft(r), briefMsgs(out))
			}
		}
	}
}

// TestTickOfOne leads at its Wait-th tick, with a Seal of its own that is committed at once.
func TestTickOfOne(t *testing.T) {
	for wait := 1; wait <= 60; wait++ {
		r := fresh(1, 1, wait)
		for n := range wait - 1 {
			wantTick(t, "of one", r, with(r, func(r *api.Raft) { r.Clock = n + 1 }), nil)
			r, _ = raft.Tick(r)
		}
		led := of(1, 1, api.Leader, 1, []api.Entry{seal(1)})
		led.Wait, led.Commit, led.Next[0] = wait, 1, 1
		wantTick(t, "of one, its Wait-th", r, led, nil)
		wantTick(t, "of one, the next", led, led, nil)
	}
}

// TestTickOfOneWithLog: what stands in its log is committed by the Seal; a full log has no room for one.
func TestTickOfOneWithLog(t *testing.T) {
	for _, x := range []struct {
		what   string
		log    []api.Entry
		commit int
		want   []api.Entry
		wants  int
	}{
		{"a log", logOf("1a 2b 4c"), 0, logOf("1a 2b 4c 6S"), 4},
		{"a log, some of it committed", logOf("1a 2b 4c"), 2, logOf("1a 2b 4c 6S"), 4},
		{"one below MaxLog", longLog(api.MaxLog-1, 5), 7, append(longLog(api.MaxLog-1, 5), seal(6)), api.MaxLog},
		{"MaxLog", longLog(api.MaxLog, 5), 0, longLog(api.MaxLog, 5), 0},
		{"MaxLog, some of it committed", longLog(api.MaxLog, 5), 7, longLog(api.MaxLog, 5), 7},
	} {
		for _, role := range []int{api.Follower, api.Candidate} {
			r := with(of(1, 1, role, 5, x.log), func(r *api.Raft) { r.Clock, r.Commit = 9, x.commit })
			led := of(1, 1, api.Leader, 6, x.want)
			led.Commit, led.Next[0] = x.wants, len(x.log)+1
			wantTick(t, x.what, r, led, nil)
		}
	}
}

// TestTickOfLeader: a letter of entries to all, from where each is; and nothing turns.
func TestTickOfLeader(t *testing.T) {
	log := logOf("1S 1a 2b 2c 2d 4S 4e")
	letter := func(to, index, logTerm, n int) api.Msg {
		return api.Msg{Kind: api.Append, From: 3, To: to, Term: 4, Commit: 2, Index: index, LogTerm: logTerm, Entries: log[index : index+n]}
	}
	for _, x := range []struct {
		what string
		next []int
		want []api.Msg
	}{
		{"all at the end", []int{8, 8, 8, 8, 8}, []api.Msg{letter(1, 7, 4, 0), letter(2, 7, 4, 0), letter(4, 7, 4, 0), letter(5, 7, 4, 0)}},
		{"each elsewhere", []int{1, 2, 8, 3, 4}, []api.Msg{letter(1, 0, 0, 4), letter(2, 1, 1, 4), letter(4, 2, 1, 4), letter(5, 3, 2, 4)}},
		{"as many as go with one letter, and fewer", []int{4, 5, 1, 6, 7}, []api.Msg{letter(1, 3, 2, 4), letter(2, 4, 2, 3), letter(4, 5, 2, 2), letter(5, 6, 4, 1)}},
		{"below 1 and beyond the log", []int{0, -1, 0, 9, 300}, []api.Msg{letter(1, 0, 0, 4), letter(2, 0, 0, 4), letter(4, 7, 4, 0), letter(5, 7, 4, 0)}},
		{"as far as numbers go", []int{math.MinInt, math.MaxInt, 0, math.MinInt + 1, math.MaxInt - 1}, []api.Msg{letter(1, 0, 0, 4), letter(2, 7, 4, 0), letter(4, 0, 0, 4), letter(5, 7, 4, 0)}},
	} {
		for _, clock := range []int{0, 1, 8, 9, 10, 100, math.MaxInt} {
			r := with(of(3, 5, api.Leader, 4, log), func(r *api.Raft) {
				r.Commit, r.Clock, r.Match = 2, clock, []int{1, 0, 7, 2, 5}
				copy(r.Next, x.next)
			})
			wantTick(t, x.what, r, r, x.want)
		}
	}
}

// TestTickOfLeaderOfMany, of each group and each place in it: to each other one, rising, with no entry or with all that go.
func TestTickOfLeaderOfMany(t *testing.T) {
	for n := 1; n <= 5; n++ {
		for me := 1; me <= n; me++ {
			for has := range 12 {
				log := longLog(has, 2)
				r := of(me, n, api.Leader, 3, log)
				var idle, all []api.Msg
				for _, i := range others(r) {
					idle = append(idle, api.Msg{Kind: api.Append, From: me, To: i, Term: 3, Index: has, LogTerm: 2 * min(has, 1)})
					all = append(all, api.Msg{Kind: api.Append, From: me, To: i, Term: 3, Entries: log[:min(has, 4)]})
				}
				wantTick(t, "a Leader of many", r, r, idle)
				for i := range n {
					r.Next[i] = 1
				}
				wantTick(t, "a Leader of many", r, r, all)
			}
		}
	}
}

// TestTickOfWhatMayNotBe: the state as it is, and no letters.
func TestTickOfWhatMayNotBe(t *testing.T) {
	for _, x := range ones() {
		for role := range 3 {
			r := with(likely(), func(r *api.Raft) { r.Role, r.Clock = role, 7 })
			x.turn(&r)
			if !plainMay(r) {
				wantTick(t, x.what, r, r, nil)
				continue
			}
			got, out := raft.Tick(r)
			wantR, wantOut := plainTick(r)
			want(t, x.what, got, out, wantR, wantOut)
		}
	}
	wantTick(t, "nothing", api.Raft{}, api.Raft{}, nil)
}

// TestTickEnds at the last term, too: where no term is above, nothing is promised but that.
func TestTickEnds(t *testing.T) {
	for n := 1; n <= 5; n++ {
		r := with(of(1, n, api.Follower, math.MaxInt, logOf("1a")), func(r *api.Raft) { r.Clock = 9 })
		got, _ := raft.Tick(r)
		for range 3 {
			got, _ = raft.Tick(got)
			got, _, _ = raft.Propose(got, seal(1))
			got, _ = raft.Take(got, api.Msg{Kind: api.Append, From: 2, To: 1, Term: math.MaxInt})
		}
	}
}

// TestTickSendsToAllRising: whoever it is.
func TestTickSendsToAllRising(t *testing.T) {
	for n := 2; n <= 5; n++ {
		for me := 1; me <= n; me++ {
			for role := range 3 {
				_, out := raft.Tick(with(of(me, n, role, 2, logOf("1a 2b")), func(r *api.Raft) { r.Clock = 9 }))
				var to []int
				for _, m := range out {
					to = append(to, m.To)
				}
				if !slices.Equal(to, others(fresh(me, n, 1))) {
					t.Errorf("member %d of %d sends to %v", me, n, to)
				}
			}
		}
	}
}
