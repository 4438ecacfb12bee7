package hard_test

import (
	"fmt"
	"math"
	"strings"
	"testing"

	"diwan/api"
	"diwan/hard"
	"diwan/raft"
)

// some logs, of terms up to 4: of none, that go on, and that are unlike at each place.
func someLogs() [][]api.Entry {
	var l [][]api.Entry
	for _, s := range []string{
		"", "1S", "1a", "2a", "4S",
		"1S 1a", "1S 1b", "1S 2a", "1a 1a",
		"1S 1a 2S", "1S 1a 2b", "1S 1a 3b", "1S 1b 2b", "2S 2a 2b",
		"1S 1a 2S 2b", "1S 1a 2S 2b 2c 4d", "1S 1a 2S 2b 2x 4d", "1S 1a 2S 2b 3c 4d", "1S 1a 2S 2b 2c 4S", "1a 1a 2S 2b 2c 4d",
		"4S 4a 4b 4c 4d 4e 4f",
	} {
		l = append(l, logOf(s))
	}
	return l
}

func TestDiffOfSame(t *testing.T) {
	for part := -1; part <= 3; part++ {
		for _, log := range append(someLogs(), longLog(api.MaxLog, 4)) {
			for _, vote := range []int{0, 1, 5} {
				a, b := of(4, vote, log), of(4, vote, deepLog(log))
				for _, recs := range [][][]byte{hard.Diff(part, a, a), hard.Diff(part, a, b)} {
					if len(recs) != 0 {
						t.Errorf("part %d, vote %d, %s: Diff of what is the same: %x", part, vote, brief(log), recs)
					}
				}
			}
		}
	}
	if recs := hard.Diff(0, api.Raft{}, api.Raft{}); len(recs) != 0 {
		t.Errorf("Diff of nothing: %x", recs)
	}
}

// TestDiffOfEmptyLists: nil and an empty list are one.
func TestDiffOfEmptyLists(t *testing.T) {
	bare := api.Txn{Session: 1, Seq: 1}
	empty := api.Txn{Session: 1, Seq: 1, Reads: []api.Read{}, Writes: []api.Write{}}
	a, b := of(1, 0, []api.Entry{{Term: 1, T: bare}}), of(1, 0, []api.Entry{{Term: 1, T: empty}})
	if recs := join(hard.Diff(0, a, b), hard.Diff(0, b, a), hard.Diff(0, of(1, 0, nil), of(1, 0, []api.Entry{}))); len(recs) != 0 {
		t.Errorf("%x", recs)
	}
	wantDiff(t, "no lists", of(0, 0, nil), a)
	wantDiff(t, "empty lists", of(0, 0, nil), b)
}

// TestDiffOfTurn: one record of a term, of a vote, of both.
func TestDiffOfTurn(t *testing.T) {
	for _, log := range []string{"", "1S", "1S 1a 2S"} {
		for _, a := range []api.Raft{of(2, 0, logOf(log)), of(2, 1, logOf(log)), of(3, 5, logOf(log)), of(math.MaxInt-1, 2, logOf(log))} {
			for _, term := range []int{2, 3, 4, 127, 128, 1 << 40, math.MaxInt} {
				for vote := range nodes + 1 {
					b := of(term, vote, logOf(log))
					what := fmt.Sprintf("%s to term %d, vote %d", briefRaft(a), term, vote)
					wantDiff(t, what, a, b)
					want := 0
					if term != a.Term || vote != a.Vote {
						want = 1
					}
					if got := len(hard.Diff(0, a, b)); got != want {
						t.Errorf("%s: %d records", what, got)
					}
				}
			}
		}
	}
}

// TestDiffOfLogs: how many records there are of a log that goes on, is cut, or is another from a place on.
func TestDiffOfLogs(t *testing.T) {
	for _, x := range []struct {
		what, a, b string
		n          int
	}{
		{"begins", "", "1S", 1},
		{"begins by many", "", "1S 1a 2S 2b", 4},
		{"goes on by one", "1S 1a", "1S 1a 1b", 1},
		{"goes on by many", "1S 1a", "1S 1a 1b 3S 3c 4d", 4},
		{"cut by one", "1S 1a 2S", "1S 1a", 1},
		{"cut to one", "1S 1a 2S", "1S", 1},
		{"cut to none", "1S 1a 2S", "", 1},
		{"unlike at the first", "1S 1a 2S", "2S 2a 2b", 3},
		{"unlike at the first, and longer", "1S", "2S 2a 2b", 3},
		{"unlike at the first, and shorter", "1S 1a 1b", "2S", 1},
		{"unlike in the midst", "1S 1a 2S 2b", "1S 3a 3S 3b", 3},
		{"unlike in the midst, what is behind alike", "1S 1a 2S 2b", "1S 1c 2S 2b", 3},
		{"unlike in the midst, and longer", "1S 1a 2S 2b", "1S 1a 3a 3S 3b 3c", 4},
		{"unlike in the midst, and shorter", "1S 1a 1b 1c 1d", "1S 1a 2S", 1},
		{"unlike at the last", "1S 1a 2S", "1S 1a 3S", 1},
		{"unlike at the last, and longer", "1S 1a 2S", "1S 1a 3S 3a", 2},
		{"another transaction at the first", "1a 1b 1c", "1x 1b 1c", 3},
		{"another transaction in the midst", "1a 1b 1c", "1a 1x 1c", 2},
		{"another transaction at the last", "1a 1b 1c", "1a 1b 1x", 1},
		{"a seal for a transaction", "1a 1b 1c", "1a 1S 1c", 2},
		{"a transaction for a seal", "1a 1S 1c", "1a 1b 1c", 2},
	} {
		a, b := of(4, 1, logOf(x.a)), of(4, 1, logOf(x.b))
		wantDiff(t, x.what, a, b)
		if got := len(hard.Diff(0, a, b)); got != x.n {
			t.Errorf("%s: %d records, want %d", x.what, got, x.n)
		}
		if got := len(hard.Diff(0, a, of(5, 0, logOf(x.b)))); got != x.n+1 {
			t.Errorf("%s, and of a term above: %d records, want %d", x.what, got, x.n+1)
		}
	}
}

// TestDiffOfAll: each of some logs with each other one, terms that rise, stay and fall, and votes.
func TestDiffOfAll(t *testing.T) {
	logs := someLogs()
	for _, x := range logs {
		for _, y := range logs {
			for _, turn := range [][4]int{{4, 1, 4, 1}, {4, 0, 4, 3}, {4, 1, 5, 0}, {4, 1, 9, 1}, {9, 2, 4, 2}, {9, 2, 5, 0}} {
				a, b := of(turn[0], turn[1], x), of(turn[2], turn[3], y)
				wantDiff(t, fmt.Sprintf("%s to %s", briefRaft(a), briefRaft(b)), a, b)
			}
		}
	}
}

// TestDiffOfLeastTerms: terms as low as the logs let them be: at no step may an entry be of a term above the member's.
func TestDiffOfLeastTerms(t *testing.T) {
	least := func(l []api.Entry) int {
		if len(l) == 0 {
			return 0
		}
		return l[len(l)-1].Term
	}
	for _, x := range someLogs() {
		for _, y := range someLogs() {
			a, b := of(least(x), 1, x), of(least(y), 1, y)
			wantDiff(t, fmt.Sprintf("%s to %s", briefRaft(a), briefRaft(b)), a, b)
		}
	}
}

func TestDiffOfLongLogs(t *testing.T) {
	all := longLog(api.MaxLog, 3)
	unlike := deepLog(all)
	unlike[127].T.Seq++
	last := deepLog(all)
	last[api.MaxLog-1].Seal = true
	logs := [][]api.Entry{nil, all[:1], all[:127], all[:128], all[:199], all, unlike, last}
	for i, x := range logs {
		for k, y := range logs {
			wantDiff(t, fmt.Sprintf("log %d to log %d", i, k), of(3, 1, x), of(4, 0, y))
		}
	}
}

// unlike are logs that are unlike the first one in one thing each, at its entry i.
func unlike(log []api.Entry, i int) map[string][]api.Entry {
	l := map[string][]api.Entry{}
	add := func(what string, turn func(e *api.Entry)) {
		x := deepLog(log)
		turn(&x[i])
		l[what] = x
	}
	add("Seal", func(e *api.Entry) { e.Seal = !e.Seal })
	add("Session", func(e *api.Entry) { e.T.Session++ })
	add("Seq", func(e *api.Entry) { e.T.Seq++ })
	add("no Reads", func(e *api.Entry) { e.T.Reads = nil })
	add("a Read more", func(e *api.Entry) { e.T.Reads = append(e.T.Reads, api.Read{Key: "z"}) })
	add("another Read ahead", func(e *api.Entry) { e.T.Reads = append([]api.Read{{Key: "A"}}, e.T.Reads...) })
	add("a Read's Key", func(e *api.Entry) { e.T.Reads[0].Key += "r" })
	add("a Read's Version", func(e *api.Entry) { e.T.Reads[0].Version++ })
	add("a Read's Val", func(e *api.Entry) { e.T.Reads[0].Val += "v" })
	add("a Read's There", func(e *api.Entry) { e.T.Reads[0].There = !e.T.Reads[0].There })
	add("no Writes", func(e *api.Entry) { e.T.Writes = nil })
	add("a Write more", func(e *api.Entry) { e.T.Writes = append(e.T.Writes, api.Write{Key: "z"}) })
	add("a Write's Key", func(e *api.Entry) { e.T.Writes[1].Key += "w" })
	add("a Write's Val", func(e *api.Entry) { e.T.Writes[0].Val += "v" })
	add("a Write's Gone", func(e *api.Entry) { e.T.Writes[1].Gone = !e.T.Writes[1].Gone })
	return l
}

// TestDiffOfTransactionAlone: the term is alike, and one thing of what is carried is another.
func TestDiffOfTransactionAlone(t *testing.T) {
	log := logOf("1a 2b 2c")
	for i := range log {
		for what, x := range unlike(log, i) {
			what = fmt.Sprintf("entry %d: %s", i+1, what)
			a, b := of(2, 1, log), of(2, 1, x)
			wantDiff(t, what, a, b)
			wantDiff(t, what+", back", b, a)
			if got := len(hard.Diff(0, a, b)); got != len(log)-i {
				t.Errorf("%s: %d records, want %d", what, got, len(log)-i)
			}
		}
	}
}

// TestDiffOfWhatNeedNotLast: none.
func TestDiffOfWhatNeedNotLast(t *testing.T) {
	for what, turn := range map[string]func(r *api.Raft){
		"Me":     func(r *api.Raft) { r.Me = 4 },
		"Nodes":  func(r *api.Raft) { r.Nodes = 4 },
		"Wait":   func(r *api.Raft) { r.Wait = 60 },
		"Commit": func(r *api.Raft) { r.Commit = 2 },
		"Role":   func(r *api.Raft) { r.Role = api.Leader },
		"Leader": func(r *api.Raft) { r.Leader = 3 },
		"Votes":  func(r *api.Raft) { r.Votes[1] = true },
		"Next":   func(r *api.Raft) { r.Next[2] = 7 },
		"Match":  func(r *api.Raft) { r.Match[3] = 2 },
		"Clock":  func(r *api.Raft) { r.Clock = 9 },
		"lists":  func(r *api.Raft) { r.Votes, r.Next, r.Match = nil, nil, nil },
	} {
		a, b := of(3, 2, logOf("1S 1a 3S")), of(3, 2, logOf("1S 1a 3S"))
		turn(&b)
		if recs := join(hard.Diff(0, a, b), hard.Diff(0, b, a)); len(recs) != 0 {
			t.Errorf("%s: %x", what, recs)
		}
		// Nor is any of it in the records of what must.
		c := of(4, 1, logOf("1S 1a 3S 4S"))
		if !alikeRecs(hard.Diff(0, a, c), hard.Diff(0, b, c)) {
			t.Errorf("%s of what was is in the records", what)
		}
		if !alikeRecs(hard.Diff(0, c, a), hard.Diff(0, c, b)) {
			t.Errorf("%s of what is is in the records", what)
		}
	}
}

// anyTxns are transactions that may not be: of these raft.May asks nothing, so a log may have them.
func anyTxns() []api.Txn {
	numbers := []int{math.MinInt, math.MinInt + 1, -1 << 40, -129, -128, -127, -2, -1, 0, 1, 127, 128, 1 << 40, math.MaxInt}
	texts := []string{"", "\x00", "\x80\x00", "a b", "\xff\xfe", "h\u00e4lf", strings.Repeat("x", 127), strings.Repeat("x", 128), strings.Repeat("x", 255), strings.Repeat("\x80", 256), strings.Repeat("long ", 20000)}
	var l []api.Txn
	for _, v := range numbers {
		l = append(l,
			api.Txn{Session: v},
			api.Txn{Seq: v},
			api.Txn{Session: 1, Seq: 1, Reads: []api.Read{{Version: v}, {Version: -v}}},
			api.Txn{Session: v, Seq: v, Reads: []api.Read{{Version: v, There: true}}})
	}
	for _, s := range texts {
		l = append(l,
			api.Txn{Reads: []api.Read{{Key: s}}},
			api.Txn{Reads: []api.Read{{Val: s}, {Val: s, There: true}}},
			api.Txn{Writes: []api.Write{{Key: s}}},
			api.Txn{Writes: []api.Write{{Val: s}, {Val: s, Gone: true}}},
			api.Txn{Session: 1, Seq: 1, Reads: []api.Read{{Key: s, Val: s}}, Writes: []api.Write{{Key: s, Val: s}}})
	}
	return append(l,
		api.Txn{},
		api.Txn{Session: 1, Seq: 1, Reads: make([]api.Read, 1000), Writes: make([]api.Write, 1000)},
		api.Txn{Session: 1, Seq: 1, Reads: []api.Read{{Key: "b"}, {Key: "a"}, {Key: "a"}}})
}

// TestDiffOfAnyTransaction: whatever a log that may be carries comes back, by an entry or by a seal.
func TestDiffOfAnyTransaction(t *testing.T) {
	for i, x := range anyTxns() {
		for _, seal := range []bool{false, true} {
			b := of(1, 0, []api.Entry{{Term: 1, T: carried('a')}, {Term: 1, Seal: seal, T: x}, {Term: 1, T: carried('b')}})
			if !raft.May(b) {
				t.Fatalf("transaction %d: the member may not be", i)
			}
			wantDiff(t, fmt.Sprintf("transaction %d, seal: %v", i, seal), of(1, 0, logOf("1a 1b")), b)
		}
	}
}
