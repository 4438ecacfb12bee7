package raft_test

import (
	"fmt"
	"math"
	"testing"

	"diwan/api"
)

const ledLog = "1S 1a 2b 2c 5S 5d 5e"

// led is member 2 of five, who leads in term 5, with a log of seven entries, the last three of its term.
func led(next, match, commit int) api.Raft {
	return with(of(2, 5, api.Leader, 5, logOf(ledLog)), func(r *api.Raft) {
		r.Commit, r.Clock = commit, 3
		r.Next[3], r.Match[3] = next, match
	})
}

// fromTwo is a letter of entries of member 2, who leads, to member 4.
func fromTwo(index, logTerm, commit, n int) []api.Msg {
	return letters(api.Msg{Kind: api.Append, From: 2, To: 4, Term: 5, Index: index, LogTerm: logTerm, Commit: commit, Entries: logOf(ledLog)[index : index+n]})
}

// TestAppendedOK: Match goes up to what is told, and no further than the log; what is beyond is sent.
func TestAppendedOK(t *testing.T) {
	for _, x := range []struct {
		next, match, index int
		want               int
		out                []api.Msg
	}{
		// new places: below the end, at it, beyond it
		{8, 0, 1, 1, fromTwo(1, 1, 2, 4)},
		{8, 0, 2, 2, fromTwo(2, 1, 2, 4)},
		{8, 0, 3, 3, fromTwo(3, 2, 2, 4)},
		{8, 0, 4, 4, fromTwo(4, 2, 2, 3)},
		{8, 0, 6, 6, fromTwo(6, 5, 2, 1)},
		{8, 0, 7, 7, nil},
		{8, 0, 8, 7, nil},
		{8, 0, 200, 7, nil},
		{8, 0, math.MaxInt, 7, nil},
		{3, 2, 6, 6, fromTwo(6, 5, 2, 1)},
		// old places: as it was, or below
		{8, 7, 7, 7, nil},
		{8, 7, 3, 7, nil},
		{8, 5, 4, 5, fromTwo(5, 5, 2, 2)},
		{8, 5, 5, 5, fromTwo(5, 5, 2, 2)},
		{6, 5, 0, 5, fromTwo(5, 5, 2, 2)},
		{6, 5, -1, 5, fromTwo(5, 5, 2, 2)},
		{6, 5, math.MinInt, 5, fromTwo(5, 5, 2, 2)},
		{1, 0, 0, 0, fromTwo(0, 0, 2, 4)},
		{8, 0, 0, 0, fromTwo(0, 0, 2, 4)},
		{8, 0, -1, 0, fromTwo(0, 0, 2, 4)},
		// places that nobody comes to by letters
		{8, 9, 3, 7, nil},
		{8, math.MaxInt, 3, 7, nil},
		{8, -2, -1, -1, fromTwo(0, 0, 2, 4)},
	} {
		r := led(x.next, x.match, 2)
		m := api.Msg{Kind: api.Appended, From: 4, To: 2, Term: 5, OK: true, Index: x.index}
		wantTake(t, fmt.Sprintf("Next %d, Match %d, told %d", x.next, x.match, x.index), r, m, with(r, func(r *api.Raft) {
			r.Match[3], r.Next[3] = x.want, x.want+1
		}), x.out)
	}
}

// TestAppendedCommits: up to where a majority has the log, if that is of the term that is now.
func TestAppendedCommits(t *testing.T) {
	for _, x := range []struct {
		match  []int
		commit int
		index  int
		want   int
	}{
		{[]int{0, 7, 0, 0, 0}, 2, 7, 2}, // two of five
		{[]int{7, 7, 0, 0, 0}, 2, 7, 7}, // three
		{[]int{6, 7, 0, 0, 0}, 2, 7, 6},
		{[]int{7, 7, 0, 0, 0}, 2, 5, 5},
		{[]int{7, 7, 0, 0, 0}, 2, 4, 2}, // of another term
		{[]int{7, 7, 0, 0, 0}, 2, 3, 2},
		{[]int{4, 7, 4, 0, 4}, 2, 7, 2},
		{[]int{7, 7, 7, 0, 0}, 2, 3, 7}, // it was so already
		{[]int{7, 7, 0, 0, 0}, 6, 5, 6}, // it stays
		{[]int{7, 7, 0, 0, 0}, 7, 5, 7},
		{[]int{7, 7, 0, 5, 0}, 2, 3, 5}, // the greater of the two
		{[]int{7, 7, 0, 0, 0}, 2, 300, 7},
	} {
		r := with(led(8, x.match[3], x.commit), func(r *api.Raft) { copy(r.Match, x.match) })
		match := min(max(x.match[3], x.index), 7)
		var out []api.Msg
		if match < 7 {
			out = fromTwo(match, plainTerm(r.Log, match), x.want, min(4, 7-match))
		}
		m := api.Msg{Kind: api.Appended, From: 4, To: 2, Term: 5, OK: true, Index: x.index}
		wantTake(t, fmt.Sprintf("%+v", x), r, m, with(r, func(r *api.Raft) {
			r.Match[3], r.Next[3], r.Commit = match, match+1, x.want
		}), out)
	}
}

// TestAppendedNo: Next goes back by one at least, to behind what is told if that is less, never to what it is known to have.
func TestAppendedNo(t *testing.T) {
	for _, x := range []struct {
		next, match, index int
		want               int
		out                []api.Msg
	}{
		// by one
		{8, 0, 7, 7, fromTwo(6, 5, 2, 1)},
		{8, 0, 6, 7, fromTwo(6, 5, 2, 1)},
		{8, 0, 200, 7, fromTwo(6, 5, 2, 1)},
		{8, 0, math.MaxInt - 1, 7, fromTwo(6, 5, 2, 1)},
		{8, 0, math.MaxInt, 7, fromTwo(6, 5, 2, 1)},
		{5, 0, 4, 4, fromTwo(3, 2, 2, 4)},
		{2, 0, 7, 1, fromTwo(0, 0, 2, 4)},
		// to what is told, and one
		{8, 0, 5, 6, fromTwo(5, 5, 2, 2)},
		{8, 0, 4, 5, fromTwo(4, 2, 2, 3)},
		{8, 0, 3, 4, fromTwo(3, 2, 2, 4)},
		{8, 0, 0, 1, fromTwo(0, 0, 2, 4)},
		{3, 0, 0, 1, fromTwo(0, 0, 2, 4)},
		// not below Match and one
		{8, 5, 0, 6, fromTwo(5, 5, 2, 2)},
		{8, 5, 4, 6, fromTwo(5, 5, 2, 2)},
		{8, 5, 5, 6, fromTwo(5, 5, 2, 2)},
		{8, 5, 6, 7, fromTwo(6, 5, 2, 1)},
		{7, 6, 6, 7, fromTwo(6, 5, 2, 1)},
		{7, 6, 2, 7, fromTwo(6, 5, 2, 1)},
		{8, 7, 7, 8, fromTwo(7, 5, 2, 0)},
		{8, 7, 0, 8, fromTwo(7, 5, 2, 0)},
		{1, 0, 0, 1, fromTwo(0, 0, 2, 4)},
		{1, 0, 7, 1, fromTwo(0, 0, 2, 4)},
		{8, 0, -1, 1, fromTwo(0, 0, 2, 4)},
		{8, 0, math.MinInt, 1, fromTwo(0, 0, 2, 4)},
		// places that nobody comes to by letters
		{0, 0, 3, 1, fromTwo(0, 0, 2, 4)},
		{-5, 0, 3, 1, fromTwo(0, 0, 2, 4)},
		{300, 0, 300, 299, fromTwo(7, 5, 2, 0)},
		{300, 0, 3, 4, fromTwo(3, 2, 2, 4)},
		{8, 20, 3, 21, fromTwo(7, 5, 2, 0)},
		{-5, -9, 3, -6, fromTwo(0, 0, 2, 4)},
	} {
		r := led(x.next, x.match, 2)
		m := api.Msg{Kind: api.Appended, From: 4, To: 2, Term: 5, Index: x.index}
		wantTake(t, fmt.Sprintf("Next %d, Match %d, told %d", x.next, x.match, x.index), r, m, with(r, func(r *api.Raft) {
			r.Next[3] = x.want
		}), x.out)
	}
}

// TestAppendedOfEach: of each place and each place told, OK and not, with a log of few and of many.
func TestAppendedOfEach(t *testing.T) {
	for _, n := range []int{0, 1, 3, 6} {
		for next := -1; next <= n+2; next++ {
			for match := 0; match <= n+1; match++ {
				for index := -1; index <= n+2; index++ {
					for _, ok := range []bool{true, false} {
						r := with(of(1, 3, api.Leader, 2, longLog(n, 2)), func(r *api.Raft) { r.Next[2], r.Match[2] = next, match })
						wantPlain(t, "Appended", r, api.Msg{Kind: api.Appended, From: 3, To: 1, Term: 2, OK: ok, Index: index})
					}
				}
			}
		}
	}
}
