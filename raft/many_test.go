package raft_test

import (
	"math"
	"math/rand/v2"
	"testing"

	"diwan/api"
	"diwan/raft"
)

// some is one of the values.
func some[T any](c *rand.Rand, values ...T) T { return values[c.IntN(len(values))] }

// someLog has n entries, whose terms rise from 1 to term at most.
func someLog(c *rand.Rand, n, term int) []api.Entry {
	var l []api.Entry
	at := 1
	for range n {
		if at < term && c.IntN(3) == 0 {
			at += 1 + c.IntN(min(term-at, 3))
		}
		e := api.Entry{Term: at, Seal: c.IntN(4) == 0}
		if !e.Seal {
			e.T = carried(byte(c.IntN(256)))
		}
		l = append(l, e)
	}
	return l
}

// someRaft is a state that may be: most are such as come up, some are not.
func someRaft(c *rand.Rand) api.Raft {
	n := 1 + c.IntN(5)
	r := fresh(1+c.IntN(n), n, some(c, 1, 2, 3, 10, 60))
	r.Term = some(c, 0, 1, 2, 3, 5, 9, 1<<40, math.MaxInt-1)
	if r.Term > 0 {
		n := c.IntN(10)
		if c.IntN(25) == 0 {
			n = some(c, 20, 195, 197, 199, 200)
		}
		r.Log = someLog(c, n, r.Term)
	}
	r.Role, r.Vote, r.Leader = c.IntN(3), c.IntN(n+1), c.IntN(n+1)
	if r.Role != api.Follower && c.IntN(5) > 0 {
		r.Vote = r.Me
	}
	r.Commit = some(c, 0, len(r.Log), c.IntN(len(r.Log)+1))
	r.Clock = some(c, 0, 1, r.Wait-1, r.Wait, c.IntN(61), math.MaxInt)
	for i := range n {
		r.Votes[i] = c.IntN(3) == 0
		r.Match[i] = c.IntN(len(r.Log) + 1)
		r.Next[i] = r.Match[i] + 1 + c.IntN(3)
		if c.IntN(20) == 0 {
			r.Match[i] = some(c, -1, -2, len(r.Log)+1, len(r.Log)+3, math.MaxInt-1, math.MinInt)
		}
		if c.IntN(20) == 0 {
			r.Next[i] = some(c, -1, 0, 1, len(r.Log)+2, len(r.Log)+3, math.MaxInt, math.MinInt+2)
		}
	}
	return r
}

// someMsg is a letter, most of which are from another member to r.
func someMsg(c *rand.Rand, r api.Raft) api.Msg {
	n := len(r.Log)
	// Each role has letters of its own.
	kind := [][]int{{api.AskVote, api.Append}, {api.Vote, api.Append}, {api.Appended}}[r.Role]
	m := api.Msg{Kind: some(c, kind...), From: 1 + r.Me%r.Nodes, To: r.Me, OK: c.IntN(2) == 0}
	if c.IntN(2) == 0 {
		m.Kind, m.From = 1+c.IntN(4), 1+c.IntN(r.Nodes)
	}
	if c.IntN(30) == 0 {
		m.Kind, m.From, m.To = c.IntN(12)-1, c.IntN(8)-1, c.IntN(8)-1
	}
	m.Term = r.Term + some(c, -1, 0, 0, 0, 0, 0, 0, 1)
	m.Index = some(c, 0, n, n, n-1, n+1, c.IntN(n+1), c.IntN(n+1), c.IntN(n+1))
	if c.IntN(20) == 0 {
		m.Index = some(c, -1, math.MaxInt, math.MinInt, 1<<32)
	}
	m.LogTerm = plainTerm(r.Log, min(max(m.Index, 0), n)) + some(c, 0, 0, 0, 0, 0, 1, -1)
	m.Commit = some(c, 0, r.Commit, r.Commit+1, n, n+2, c.IntN(n+1), math.MaxInt, math.MinInt)
	m.Entries = someLog(c, c.IntN(6), max(m.Term, 1))
	if at := m.Index; 0 <= at && at < n && c.IntN(2) == 0 {
		// of what it has, and on
		m.Entries = append(deepLog(r.Log[at:min(at+c.IntN(5), n)]), m.Entries...)
	}
	return m
}

// TestMany: all that the chapter says, of many states and letters.
func TestMany(t *testing.T) {
	c := chance(3)
	turned, sent, committed := 0, 0, 0
	for range 12000 {
		r := someRaft(c)
		if !raft.May(r) || !plainMay(r) {
			t.Fatalf("May(%s) = %v", briefRaft(r), raft.May(r))
		}
		was := deep(r)
		m := someMsg(c, r)
		wantPlain(t, "Take", r, m)

		got, out := raft.Take(r, m)
		if !alike(got, r) {
			turned++
		}
		if got.Commit > r.Commit {
			committed++
		}
		sent += len(out)

		tickR, tickOut := plainTick(r)
		got, out = raft.Tick(r)
		want(t, "Tick of "+briefRaft(r), got, out, tickR, tickOut)

		e := api.Entry{Term: c.IntN(4), T: carried('p')}
		proposeR, proposeOut, proposeOK := plainPropose(r, e)
		got, out, ok := raft.Propose(r, e)
		want(t, "Propose to "+briefRaft(r), got, out, proposeR, proposeOut)
		if ok != proposeOK {
			t.Errorf("Propose to %s: %v", briefRaft(r), ok)
		}
		if !alike(r, was) {
			t.Errorf("%s is now %s", briefRaft(was), briefRaft(r))
		}
		if t.Failed() {
			return
		}
	}
	if turned < 3500 || sent < 4500 || committed < 450 {
		t.Errorf("only %d turned, %d letters were sent, %d committed", turned, sent, committed)
	}
}

// FuzzTake: of states and letters by chance, in which the letter has these numbers.
func FuzzTake(f *testing.F) {
	for i := range 20 {
		f.Add(uint64(i), 1+i%4, i, i%3-1, i%7, i%4, i%8, i%2 == 0)
	}
	f.Fuzz(func(t *testing.T, seed uint64, kind, from, above, index, logTerm, commit int, ok bool) {
		c := chance(seed)
		r := someRaft(c)
		m := someMsg(c, r)
		wantPlain(t, "Take", r, m)
		m.Kind, m.Index, m.LogTerm, m.Commit, m.OK = kind, index, logTerm, commit, ok
		// A letter of a term that no number tells is none.
		if above < 1 || r.Term < math.MaxInt-above {
			m.Term = r.Term + above
		}
		wantPlain(t, "Take", r, m)
		m.From = from
		wantPlain(t, "Take", r, m)
	})
}
