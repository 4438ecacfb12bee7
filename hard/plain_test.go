package hard_test

import (
	"fmt"
	"reflect"
	"testing"

	"diwan/api"
	"diwan/hard"
)

// plainSame tells whether two entries are alike in all; nil and an empty list are one.
func plainSame(a, b api.Entry) bool {
	return reflect.DeepEqual(deepLog([]api.Entry{a}), deepLog([]api.Entry{b}))
}

// plainSteps is what P12.1 says of Diff, done one by one: what a is behind each record.
// Of the order it says nothing; each step must be one that may be, so a term that falls comes behind the entries.
func plainSteps(a, b api.Raft) []api.Raft {
	var l []api.Raft
	now := of(a.Term, a.Vote, a.Log)
	step := func(term, vote int, log []api.Entry) {
		now = of(term, vote, deepLog(log))
		l = append(l, now)
	}
	turn := func() {
		if now.Term != b.Term || now.Vote != b.Vote {
			step(b.Term, b.Vote, now.Log)
		}
	}
	if b.Term >= a.Term {
		turn()
	}
	first := 0 // the first place where both are not alike
	for first < len(a.Log) && first < len(b.Log) && plainSame(a.Log[first], b.Log[first]) {
		first++
	}
	if len(b.Log) == first && len(a.Log) > first {
		step(now.Term, now.Vote, b.Log)
	}
	for n := first + 1; n <= len(b.Log); n++ {
		step(now.Term, now.Vote, b.Log[:n])
	}
	turn()
	return l
}

// wantDiff holds Diff to the words: so many records, each of which turns the state as it should, the last one into b's.
func wantDiff(t *testing.T, what string, a, b api.Raft) {
	t.Helper()
	steps := plainSteps(a, b)
	ahead, recs := to(0, a), hard.Diff(0, a, b)
	if len(recs) != len(steps) {
		t.Errorf("%s: %d records, want %d", what, len(recs), len(steps))
		return
	}
	wantFold(t, what+": ahead", ahead, of(a.Term, a.Vote, a.Log))
	for k, r := range steps {
		wantFold(t, fmt.Sprintf("%s: behind record %d", what, k+1), join(ahead, recs[:k+1]), r)
	}
	wantFold(t, what+": behind all", join(ahead, recs), of(b.Term, b.Vote, b.Log))
}
