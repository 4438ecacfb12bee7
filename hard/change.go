package hard

import (
	"diwan/api"
	"diwan/txn"
)

// changes tells the records, of log 0, that turn what of a must last into what of b must.
func changes(a, b api.Raft) []record {
	log := logChanges(a.Log, b.Log)
	if a.Term == b.Term && a.Vote == b.Vote {
		return log
	}
	turned := record{kind: kindTurn, term: b.Term, vote: b.Vote}
	// Behind each record all entries must be of the member's term or below: so a term that falls comes behind them.
	if b.Term < a.Term {
		return append(log, turned)
	}
	return append([]record{turned}, log...)
}

func logChanges(a, b []api.Entry) []record {
	n := alike(a, b)
	if n == len(b) && n < len(a) {
		return []record{{kind: kindCut, at: n}}
	}
	var l []record
	for i := n; i < len(b); i++ {
		l = append(l, record{kind: kindAdd, at: i + 1, entry: b[i]})
	}
	return l
}

// alike tells how many of a and b, from the first one on, are alike in all.
func alike(a, b []api.Entry) int {
	n := 0
	for n < len(a) && n < len(b) && same(a[n], b[n]) {
		n++
	}
	return n
}

func same(a, b api.Entry) bool {
	return a.Term == b.Term && a.Seal == b.Seal && txn.Same(a.T, b.T)
}
