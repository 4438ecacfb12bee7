package raft_test

import (
	"fmt"
	"math"
	"testing"

	"diwan/api"
	"diwan/raft"
)

// wantTake holds Take to what is asked for, and that to the chapter's words.
func wantTake(t *testing.T, what string, r api.Raft, m api.Msg, wantR api.Raft, wantOut []api.Msg) {
	t.Helper()
	plainR, plainOut := plainTake(r, m)
	want(t, what+", in plain words", plainR, plainOut, wantR, wantOut)
	wasR, wasM := deep(r), deepMsg(m)
	got, out := raft.Take(r, m)
	want(t, what, got, out, wantR, wantOut)
	want(t, what+": what was handed in", r, []api.Msg{m}, wasR, []api.Msg{wasM})
}

// wantPlain holds Take to the chapter's words.
func wantPlain(t *testing.T, what string, r api.Raft, m api.Msg) {
	t.Helper()
	wantR, wantOut := plainTake(r, m)
	wantTake(t, what+": "+briefRaft(r)+" takes "+briefMsg(m), r, m, wantR, wantOut)
}

// letters are a list of them.
func letters(l ...api.Msg) []api.Msg { return l }

// inEachRole is member 2 of three, of term 5, in each role, with places, votes and a Leader that may be.
func inEachRole() []api.Raft {
	log := logOf("1a 2b 5S 5c")
	f := with(of(2, 3, api.Follower, 5, log), func(r *api.Raft) {
		r.Vote, r.Leader, r.Commit, r.Clock = 3, 3, 1, 4
		r.Next, r.Match = []int{3, 3, 2}, []int{1, 2, 0}
	})
	c := with(of(2, 3, api.Candidate, 5, logOf("1a 2b")), func(r *api.Raft) {
		r.Commit, r.Clock = 1, 4
		r.Next, r.Match = []int{3, 3, 2}, []int{1, 2, 0}
	})
	l := with(of(2, 3, api.Leader, 5, log), func(r *api.Raft) {
		r.Commit, r.Clock = 1, 4
		r.Votes[0] = true
		r.Next, r.Match = []int{3, 3, 2}, []int{1, 4, 0}
	})
	return []api.Raft{f, c, l}
}

// TestTakeOfTermAbove: it follows nobody in that term, and then takes the letter as one of it.
func TestTakeOfTermAbove(t *testing.T) {
	for _, r := range inEachRole() {
		for _, term := range []int{6, 7, 1 << 40, math.MaxInt} {
			turned := with(r, func(r *api.Raft) {
				r.Role, r.Term, r.Vote, r.Leader = api.Follower, term, 0, 0
				r.Votes = make([]bool, 3)
			})
			n := len(r.Log)
			what := fmt.Sprintf("role %d, term %d: ", r.Role, term)
			m := api.Msg{From: 1, To: 2, Term: term}
			for _, ok := range []bool{false, true} {
				m.OK, m.Index, m.LogTerm = ok, 4, 5
				m.Kind = api.AskVote
				wantTake(t, what+"AskVote, a log as new", r, m, with(turned, func(r *api.Raft) { r.Vote, r.Clock = 1, 0 }), letters(api.Msg{Kind: api.Vote, From: 2, To: 1, Term: term, OK: true}))
				m.LogTerm = 1
				wantTake(t, what+"AskVote, an older log", r, m, turned, letters(api.Msg{Kind: api.Vote, From: 2, To: 1, Term: term}))
				m.Kind = api.Vote
				wantTake(t, what+"Vote", r, m, turned, nil)
				m.Kind = api.Appended
				wantTake(t, what+"Appended", r, m, turned, nil)
				for _, kind := range []int{0, -1, math.MinInt} { // no kind of letter, but of a term above
					m.Kind = kind
					wantTake(t, what+"no kind", r, m, turned, nil)
				}
				m.Kind, m.Index, m.LogTerm, m.Commit = api.Append, 2, 2, 2
				follows := with(turned, func(r *api.Raft) { r.Leader, r.Clock, r.Commit = 1, 0, 2 })
				wantTake(t, what+"Append", r, m, follows, letters(api.Msg{Kind: api.Appended, From: 2, To: 1, Term: term, OK: true, Index: 2}))
				m.LogTerm = 3
				follows.Commit = 1
				wantTake(t, what+"Append, another term there", r, m, follows, letters(api.Msg{Kind: api.Appended, From: 2, To: 1, Term: term, Index: 1}))
				m.Index = 9
				wantTake(t, what+"Append, beyond the log", r, m, follows, letters(api.Msg{Kind: api.Appended, From: 2, To: 1, Term: term, Index: n}))
			}
		}
	}
}

// TestTakeOfTermBelow: who asks is told no, of the term that is now; and nothing turns.
func TestTakeOfTermBelow(t *testing.T) {
	for _, r := range inEachRole() {
		for _, term := range []int{4, 1, 0, -1, math.MinInt} {
			what := fmt.Sprintf("role %d, term %d: ", r.Role, term)
			for _, from := range []int{1, 3} {
				for _, ok := range []bool{false, true} {
					m := api.Msg{From: from, To: 2, Term: term, OK: ok, Index: 4, LogTerm: 5, Commit: 4, Entries: logOf("5x")}
					m.Kind = api.AskVote
					wantTake(t, what+"AskVote", r, m, r, letters(api.Msg{Kind: api.Vote, From: 2, To: from, Term: 5}))
					m.Kind = api.Append
					wantTake(t, what+"Append", r, m, r, letters(api.Msg{Kind: api.Appended, From: 2, To: from, Term: 5}))
					for _, kind := range []int{api.Vote, api.Appended, 0, -1, math.MinInt} {
						m.Kind = kind
						wantTake(t, what+"passed over", r, m, r, nil)
					}
				}
			}
		}
	}
}

// TestTakeOfTerm: what is not of a role is passed over, and so is what is no kind.
func TestTakeOfTerm(t *testing.T) {
	roles := inEachRole()
	f, c, l := roles[0], roles[1], roles[2]
	m := api.Msg{From: 1, To: 2, Term: 5, OK: true, Index: 4, LogTerm: 5, Commit: 4, Entries: logOf("5x")}
	for _, x := range []struct {
		what string
		r    api.Raft
		kind int
	}{
		{"a Follower, Vote", f, api.Vote},
		{"a Leader, Vote", l, api.Vote},
		{"a Leader, Append", l, api.Append},
		{"a Follower, Appended", f, api.Appended},
		{"a Candidate, Appended", c, api.Appended},
		{"a Follower, no kind", f, 0},
		{"a Candidate, no kind", c, 0},
		{"a Leader, no kind", l, 0},
		{"a Follower, below all kinds", f, -1},
		{"a Candidate, below all kinds", c, -1},
		{"a Leader, below all kinds", l, math.MinInt},
	} {
		m.Kind = x.kind
		for _, ok := range []bool{true, false} {
			m.OK = ok
			wantTake(t, x.what, x.r, m, x.r, nil)
		}
	}
}

// TestTakeOfKindsFromSubmitOn are passed over, whatever their Term.
func TestTakeOfKindsFromSubmitOn(t *testing.T) {
	for _, r := range inEachRole() {
		for _, kind := range []int{api.Submit, api.AskBit, api.Bit, api.AskRead, api.Reads, 10, 1<<32 + 1, math.MaxInt} {
			for _, term := range []int{0, 4, 5, 6, math.MaxInt} {
				m := api.Msg{Kind: kind, From: 1, To: 2, Term: term, OK: true, Index: 4, LogTerm: 5, Commit: 4, Entries: logOf("5x"), T: carried('t')}
				wantTake(t, fmt.Sprint("kind ", kind, ", term ", term), r, m, r, nil)
			}
		}
	}
}

// TestTakeOfNoLetter: from oneself, from nobody, from who is no member, to another: nothing, whatever its Term.
func TestTakeOfNoLetter(t *testing.T) {
	for _, r := range inEachRole() {
		for kind := -1; kind <= 10; kind++ {
			for _, term := range []int{4, 5, 6} {
				for _, x := range []struct{ from, to int }{
					{2, 2}, {0, 2}, {-1, 2}, {4, 2}, {5, 2}, {math.MaxInt, 2}, {math.MinInt, 2}, {1<<32 + 1, 2},
					{1, 0}, {1, 1}, {1, 3}, {1, 4}, {1, -1}, {1, -2}, {1, 1<<32 + 2}, {3, 1}, {2, 1}, {2, 3}, {0, 0}, {4, 4}, {math.MinInt, math.MaxInt},
				} {
					m := api.Msg{Kind: kind, From: x.from, To: x.to, Term: term, OK: true, Index: 2, LogTerm: 2, Commit: 2}
					wantTake(t, fmt.Sprintf("kind %d, term %d, from %d to %d", kind, term, x.from, x.to), r, m, r, nil)
				}
			}
		}
		wantTake(t, "nothing", r, api.Msg{}, r, nil)
	}
	// The members are those that there are, not those that there may be.
	for n := 1; n <= 5; n++ {
		for from := -1; from <= 7; from++ {
			r := of(1, n, api.Follower, 1, nil)
			m := api.Msg{Kind: api.AskVote, From: from, To: 1, Term: 2}
			got, out := raft.Take(r, m)
			if is := 2 <= from && from <= n; (got.Term == 2) != is || (len(out) == 1) != is {
				t.Errorf("of %d, from %d: term %d, %d letters", n, from, got.Term, len(out))
			}
		}
	}
}

// TestTakeToWhatMayNotBe: the state as it is, and no letters.
func TestTakeToWhatMayNotBe(t *testing.T) {
	for _, x := range ones() {
		r := with(likely(), x.turn)
		if plainMay(r) {
			continue
		}
		for kind := range 6 {
			for _, term := range []int{r.Term - 1, r.Term, r.Term + 1} {
				for _, ok := range []bool{true, false} {
					m := api.Msg{Kind: kind, From: 2, To: r.Me, Term: term, OK: ok, Index: 3, LogTerm: 4, Commit: 4, Entries: logOf("9c")}
					wantTake(t, x.what, r, m, r, nil)
				}
			}
		}
	}
	wantTake(t, "nothing", api.Raft{}, api.Msg{Kind: api.AskVote, From: 1, To: 2, Term: 1}, api.Raft{}, nil)
	wantTake(t, "nothing of nothing", api.Raft{}, api.Msg{}, api.Raft{}, nil)
}

// TestTakeOfWhatNoKindNames: what a letter has beside is not looked at.
func TestTakeOfWhatNoKindNames(t *testing.T) {
	for _, r := range inEachRole() {
		for kind := range 5 {
			for _, term := range []int{4, 5, 6} {
				m := api.Msg{Kind: kind, From: 1, To: 2, Term: term, OK: true, Index: 4, LogTerm: 5}
				wantR, wantOut := raft.Take(r, m)
				m.Part, m.T, m.Session, m.Seq, m.Pos, m.Shard = 2, carried('t'), 3, 4, 5, 1
				m.Span, m.FromKey, m.ToKey, m.Keys, m.Got, m.Err = true, "a", "b", []string{"k"}, []api.Read{{Key: "k"}}, api.EOld
				if kind != api.Append {
					m.Commit, m.Entries = 4, logOf("5x 5y")
				}
				wantTake(t, fmt.Sprint("kind ", kind), r, m, wantR, wantOut)
			}
		}
	}
}
