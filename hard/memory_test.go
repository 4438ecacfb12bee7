package hard_test

import (
	"bytes"
	"fmt"
	"slices"
	"strconv"
	"testing"

	"diwan/api"
	"diwan/hard"
)

// roomOf is l with spare room behind it, in which other things stand.
func roomOf[T any](l []T, other T) []T {
	return append(list(l), other, other, other)[:len(l)]
}

func roomyRaft(r api.Raft) api.Raft {
	r.Log = roomOf(r.Log, api.Entry{Term: 90, T: api.Txn{Session: 91}})
	for i := range r.Log {
		r.Log[i].T.Reads = roomOf(r.Log[i].T.Reads, api.Read{Key: "room"})
		r.Log[i].T.Writes = roomOf(r.Log[i].T.Writes, api.Write{Key: "room"})
	}
	r.Votes, r.Next, r.Match = roomOf(r.Votes, true), roomOf(r.Next, 77), roomOf(r.Match, 78)
	return r
}

func roomyRecs(recs [][]byte) [][]byte {
	recs = roomOf(recs, []byte("room"))
	for i := range recs {
		recs[i] = roomOf(recs[i], 'r')
	}
	return recs
}

// whole is all of l, with the room behind it.
func whole[T any](l []T) []T { return l[:cap(l)] }

// wholeRaft is a copy of r, with all the room behind its lists.
func wholeRaft(r api.Raft) api.Raft {
	r.Log = slices.Clone(whole(r.Log))
	for i, e := range r.Log {
		r.Log[i].T.Reads, r.Log[i].T.Writes = slices.Clone(whole(e.T.Reads)), slices.Clone(whole(e.T.Writes))
	}
	r.Votes, r.Next, r.Match = slices.Clone(whole(r.Votes)), slices.Clone(whole(r.Next)), slices.Clone(whole(r.Match))
	return r
}

func wholeRecs(recs [][]byte) [][]byte {
	recs = slices.Clone(whole(recs))
	for i, rec := range recs {
		recs[i] = slices.Clone(whole(rec))
	}
	return recs
}

func fill[T any](l []T, with T) {
	for i := range whole(l) {
		whole(l)[i] = with
	}
}

// spoilRaft writes over all lists of r, and the room behind them.
func spoilRaft(r api.Raft) {
	for _, e := range whole(r.Log) {
		fill(e.T.Reads, api.Read{Key: "spoilt", Version: -7})
		fill(e.T.Writes, api.Write{Key: "spoilt", Gone: true})
	}
	fill(r.Log, api.Entry{Term: -7, Seal: true, T: carried('!')})
	fill(r.Votes, true)
	fill(r.Next, -77)
	fill(r.Match, -78)
}

// spoilRecs turns all bytes of recs, and the room behind them, and the list itself.
func spoilRecs(recs [][]byte) {
	for _, rec := range whole(recs) {
		for i := range whole(rec) {
			whole(rec)[i] ^= 0xff
		}
	}
	fill(recs, []byte("spoilt"))
}

// pairs are states of which Diff tells something, and nothing.
func pairs() [][2]api.Raft {
	var l [][2]api.Raft
	for _, x := range [][2]string{{"", "1S 1a"}, {"1S 1a", "1S 1a"}, {"1S 1a 2b", "1S 1a"}, {"1S 1a", "1S 1a 2b 3S 3c"}, {"1S 1a 1b", "1x 2y"}, {"1S 1a", ""}} {
		l = append(l, [2]api.Raft{of(3, 1, logOf(x[0])), of(3, 1, logOf(x[1]))}, [2]api.Raft{of(3, 1, logOf(x[0])), of(4, 0, logOf(x[1]))})
	}
	return append(l,
		[2]api.Raft{of(4, 1, logOf("4a")), of(3, 1, logOf("3a"))},
		[2]api.Raft{of(-1, -1, logOf("0a -1b")), of(-9, 9, logOf("3a 2a"))})
}

// TestDiffLeavesWhatIsHandedIn: neither changed nor kept, with the room behind it.
func TestDiffLeavesWhatIsHandedIn(t *testing.T) {
	for i, x := range pairs() {
		for _, part := range []int{-1, 0, 2} {
			a, b := roomyRaft(deep(x[0])), roomyRaft(deep(x[1]))
			wasA, wasB := wholeRaft(a), wholeRaft(b)
			recs := hard.Diff(part, a, b)
			if !alike(wholeRaft(a), wasA) || !alike(wholeRaft(b), wasB) {
				t.Errorf("pair %d: what was handed in has changed", i)
			}
			was := deepRecs(recs)
			spoilRaft(a)
			spoilRaft(b)
			if !alikeRecs(recs, was) || !alikeRecs(recs, hard.Diff(part, x[0], x[1])) {
				t.Errorf("pair %d: what is told hangs on what was handed in", i)
			}
		}
	}
}

// TestDiffIsNew: no two records share memory, nor do two calls.
func TestDiffIsNew(t *testing.T) {
	for i, x := range pairs() {
		recs, other := hard.Diff(0, x[0], x[1]), hard.Diff(0, x[0], x[1])
		was := deepRecs(other)
		wantApart(t, fmt.Sprintf("pair %d", i), recs)
		spoilRecs(recs)
		if !alikeRecs(other, was) || !alikeRecs(hard.Diff(0, x[0], x[1]), was) {
			t.Errorf("pair %d: two calls share memory", i)
		}
	}
}

// wantApart writes all over one record and the room behind it, and holds the others to what they were.
func wantApart(t *testing.T, what string, recs [][]byte) {
	t.Helper()
	for i := range recs {
		was := wholeRecs(recs)
		fill(recs[i], '#')
		for k := range recs {
			if k != i && !bytes.Equal(whole(recs[k]), was[k]) {
				t.Errorf("%s: records %d and %d share memory", what, i, k)
			}
		}
	}
}

// folds are records that Fold takes, and some that it does not.
func folds() [][][]byte {
	r := of(3, 1, logOf("1S 1a 2b 3S 3c"))
	all := join(to(0, r), to(1, r), hard.Diff(0, r, of(4, 0, logOf("1S 1a"))), hard.Diff(0, of(4, 0, logOf("1S 1a")), of(5, 0, logOf("1S 1a 5S 5x 5y"))), hard.Diff(1, r, of(3, 1, nil)))
	return [][][]byte{nil, to(0, of(3, 0, nil)), all, append(slices.Clone(all), nil), append(slices.Clone(all), []byte("none")), join(all, cutTo(100)), join(all, to(7, r)), join(all, to(0, of(1, 9, nil)))}
}

// TestFoldLeavesWhatIsHandedIn: neither changed nor kept, with the room behind it.
func TestFoldLeavesWhatIsHandedIn(t *testing.T) {
	for i, x := range folds() {
		recs := roomyRecs(x)
		was := wholeRecs(recs)
		got, ok := hard.Fold(recs, 2, me, nodes, wait)
		if !alikeRecs(wholeRecs(recs), was) {
			t.Errorf("records %d: what was handed in has changed", i)
		}
		wasGot := deepAll(got)
		spoilRecs(recs)
		if !alikeAll(got, wasGot) {
			t.Errorf("records %d: what is told hangs on what was handed in", i)
		}
		if again, okAgain := hard.Fold(x, 2, me, nodes, wait); okAgain != ok || !alikeAll(got, again) {
			t.Errorf("records %d: Fold says %v,%s, then %v,%s", i, ok, briefAll(got), okAgain, briefAll(again))
		}
	}
}

// TestFoldIsNew: no two lists of what is told share memory, nor do two calls.
func TestFoldIsNew(t *testing.T) {
	for i, x := range folds() {
		got, _ := hard.Fold(x, 2, me, nodes, wait)
		other, _ := hard.Fold(x, 2, me, nodes, wait)
		was := deepAll(other)
		wantListsApart(t, fmt.Sprintf("records %d", i), got)
		for _, r := range got {
			spoilRaft(r)
		}
		if !alikeAll(other, was) {
			t.Errorf("records %d: two calls share memory", i)
		}
	}
}

// wantListsApart writes a number of its own all over each list and the room behind it: it is not to be found in another one.
func wantListsApart(t *testing.T, what string, l []api.Raft) {
	t.Helper()
	n := 0
	each := func(do func(n int, e *api.Entry)) {
		n = 0
		for _, r := range l {
			for i := range whole(r.Log) {
				n++
				do(n, &whole(r.Log)[i])
			}
		}
	}
	each(func(n int, e *api.Entry) {
		e.Term = n
		fill(e.T.Reads, api.Read{Version: n})
		fill(e.T.Writes, api.Write{Val: strconv.Itoa(n)})
	})
	each(func(n int, e *api.Entry) {
		other := e.Term != n
		for _, r := range whole(e.T.Reads) {
			other = other || r.Version != n
		}
		for _, w := range whole(e.T.Writes) {
			other = other || w.Val != strconv.Itoa(n)
		}
		if other {
			t.Errorf("%s: entry %d of all lists shares memory with another one", what, n)
		}
	})
	for k, r := range l {
		fill(r.Next, 2*k)
		fill(r.Match, 2*k+1)
		fill(r.Votes, k == 1)
	}
	for k, r := range l {
		for i := range r.Nodes {
			if r.Next[i] != 2*k || r.Match[i] != 2*k+1 || r.Votes[i] != (k == 1) {
				t.Errorf("%s: lists of member %d share memory", what, k)
			}
		}
	}
}

func TestPackLeavesWhatIsHandedIn(t *testing.T) {
	for i, x := range folds() {
		recs := roomyRecs(x)
		was := wholeRecs(recs)
		b := hard.Pack(recs)
		if !alikeRecs(wholeRecs(recs), was) {
			t.Errorf("records %d: what was handed in has changed", i)
		}
		wasB := bytes.Clone(b)
		spoilRecs(recs)
		if !bytes.Equal(b, wasB) {
			t.Errorf("records %d: what is told hangs on what was handed in", i)
		}
		one, other := hard.Pack(x), hard.Pack(x)
		fill(one, '#')
		if !bytes.Equal(other, wasB) {
			t.Errorf("records %d: two calls share memory", i)
		}
	}
	// Not even of one text alone.
	rec := []byte("text")
	b := hard.Pack([][]byte{rec})
	fill(b, '#')
	if string(rec) != "text" {
		t.Errorf("what was handed in is %q", rec)
	}
}

func TestUnpackLeavesWhatIsHandedIn(t *testing.T) {
	for _, s := range []string{"", "\x00", "\x04text", "\x01a\x00\x02bc\x00\x03def", "\x01a\x02b", "\x02ab\x80\x00", "\xff"} {
		room := []byte(s + "spare room")
		b := room[:len(s)]
		recs, _ := hard.Unpack(b)
		if string(room) != s+"spare room" {
			t.Errorf("%x is now %x", s, room)
		}
		was := deepRecs(recs)
		fill(b, '#')
		if !alikeRecs(recs, was) {
			t.Errorf("%x: what is told hangs on what was handed in", s)
		}
		room = []byte(s + "spare room")
		recs, _ = hard.Unpack(room[:len(s)])
		wantApart(t, fmt.Sprintf("%x", s), recs)
		spoilRecs(recs)
		if string(room) != s+"spare room" {
			t.Errorf("%x: what was handed in is spoilt with what is told: %x", s, room)
		}
	}
}
