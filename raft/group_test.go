package raft_test

import (
	"fmt"
	"math/rand/v2"
	"reflect"
	"slices"
	"testing"

	"diwan/api"
	"diwan/msg"
	"diwan/raft"
)

// group is all members of one log, and their letters under way.
type group struct {
	t         *testing.T
	what      string
	members   []api.Raft
	under     []api.Msg
	leads     map[int]int // who leads in each term
	committed []api.Entry
	proposed  int
}

// newGroup is n members, which wait from 3 ticks on, all unlike.
func newGroup(t *testing.T, what string, n int) *group {
	g := &group{t: t, what: what, leads: map[int]int{}}
	for i := range n {
		g.members = append(g.members, raft.New(i+1, n, 3+(2*i+1)%5))
	}
	return g
}

// turned notes what has become of a member, and holds it to what follows from the promises.
func (g *group) turned(r api.Raft, out []api.Msg) {
	g.t.Helper()
	was := g.members[r.Me-1]
	g.members[r.Me-1] = r
	if !raft.May(r) {
		g.t.Fatalf("%s: %s may not be", g.what, briefRaft(r))
	}
	if r.Term < was.Term || r.Term == was.Term && was.Vote != 0 && r.Vote != was.Vote {
		g.t.Fatalf("%s: term %d, vote %d, and then term %d, vote %d", g.what, was.Term, was.Vote, r.Term, r.Vote)
	}
	for _, m := range out {
		if !msg.May(m) || m.From != r.Me || m.Term != r.Term {
			g.t.Fatalf("%s: member %d of term %d sends %s", g.what, r.Me, r.Term, briefMsg(m))
		}
	}
	if len(g.under) < 2000 {
		g.under = append(g.under, out...)
	}
	g.lead(r)
	g.commit(r)
}

// lead holds who leads to: one in a term; and who leads in the last one has all that is committed.
func (g *group) lead(r api.Raft) {
	if r.Role != api.Leader {
		return
	}
	if who := g.leads[r.Term]; who != 0 && who != r.Me {
		g.t.Fatalf("%s: in term %d both %d and %d lead", g.what, r.Term, who, r.Me)
	}
	g.leads[r.Term] = r.Me
	for term := range g.leads {
		if term > r.Term {
			return
		}
	}
	if !begins(r.Log, g.committed) {
		g.t.Fatalf("%s: %d leads in term %d with %s, but %s is committed", g.what, r.Me, r.Term, brief(r.Log), brief(g.committed))
	}
}

// commit holds what r says to be committed to what any member has ever said so.
func (g *group) commit(r api.Raft) {
	front := r.Log[:r.Commit]
	if !begins(front, g.committed) && !begins(g.committed, front) {
		g.t.Fatalf("%s: %s is committed, and of %d %s", g.what, brief(g.committed), r.Me, brief(front))
	}
	if len(front) > len(g.committed) {
		g.committed = deepLog(front)
	}
}

// begins tells whether l begins with front.
func begins(l, front []api.Entry) bool {
	return len(l) >= len(front) && reflect.DeepEqual(deepLog(l[:len(front)]), deepLog(front))
}

func (g *group) tick(i int) { g.turned(raft.Tick(g.members[i])) }

func (g *group) again(i int) { g.turned(raft.Again(g.members[i]), nil) }

func (g *group) propose(i int) bool {
	g.proposed++
	r, out, ok := raft.Propose(g.members[i], api.Entry{T: api.Txn{Session: 1 + i, Seq: 1 + g.proposed%api.MaxSeq}})
	g.turned(r, out)
	return ok
}

// give brings letter k, which is under way no more, unless it is there once more.
func (g *group) give(k int, twice bool) {
	m := g.under[k]
	if !twice {
		g.lose(k)
	}
	g.turned(raft.Take(g.members[m.To-1], m))
}

func (g *group) lose(k int) { g.under = slices.Delete(g.under, k, k+1) }

// trouble is one step in which anything may happen.
func (g *group) trouble(c *rand.Rand, loss int) {
	n := len(g.members)
	switch x := c.IntN(100); {
	case x < 25:
		g.tick(c.IntN(n))
	case x < 30:
		g.propose(c.IntN(n))
	case x < 32:
		g.again(c.IntN(n))
	case len(g.under) == 0:
	case c.IntN(100) < loss:
		g.lose(c.IntN(len(g.under)))
	default:
		// The first ones mostly, so that most are not too late to count.
		g.give(min(c.IntN(len(g.under)), c.IntN(len(g.under))), c.IntN(8) == 0)
	}
}

// deliver brings all letters, one by one, until none is under way.
func (g *group) deliver() {
	for range 20000 {
		if len(g.under) == 0 {
			return
		}
		g.give(0, false)
	}
	g.t.Fatalf("%s: letters without end", g.what)
}

// calm is so many rounds in which each member ticks, and all letters come.
func (g *group) calm(rounds int) {
	g.deliver()
	for range rounds {
		for i := range g.members {
			g.tick(i)
			g.deliver()
		}
	}
}

// leader is who leads in the last term.
func (g *group) leader() (int, bool) {
	last := slices.MaxFunc(g.members, func(a, b api.Raft) int { return a.Term - b.Term })
	who := slices.IndexFunc(g.members, func(r api.Raft) bool { return r.Role == api.Leader && r.Term == last.Term })
	return who, who >= 0
}

// longest is how long that member waits who waits longest.
func (g *group) longest() int {
	n := 0
	for _, r := range g.members {
		n = max(n, r.Wait)
	}
	return n
}

// settle holds a group in which all is calm to: one leads soon, and all follow it; what is proposed is committed by all.
func (g *group) settle() {
	g.t.Helper()
	// Who stands first may have an older log, or a term that is over: then it is the turn of those that wait longer.
	soon := 2 * g.longest()
	g.calm(soon)
	who, ok := g.leader()
	if !ok {
		g.t.Fatalf("%s: nobody leads after %d rounds", g.what, soon)
	}
	for _, r := range g.members {
		if r.Leader != who+1 || r.Term != g.members[who].Term || (r.Role == api.Leader) != (r.Me == who+1) {
			g.t.Fatalf("%s: %d leads in term %d, but %s", g.what, who+1, g.members[who].Term, briefRaft(r))
		}
	}
	had := len(g.members[who].Log)
	asked := 0
	for range 3 {
		if g.propose(who) {
			asked++
		}
	}
	if asked != min(3, api.MaxLog-had) {
		g.t.Fatalf("%s: of three, %d were taken, with %d entries", g.what, asked, had)
	}
	g.calm(2)
	for _, r := range g.members {
		if asked == 3 && (r.Commit != had+3 || len(r.Log) != had+3) || !begins(r.Log, g.members[who].Log) {
			g.t.Fatalf("%s: three were proposed behind %d, but of %d %d of %d are committed", g.what, had, r.Me, r.Commit, len(r.Log))
		}
	}
}

// TestInTrouble: letters are lost, doubled and late, members come up anew: one leads a term at most, and what is committed stays and is the same on all; and when it is calm again, one leads soon.
func TestInTrouble(t *testing.T) {
	for n := 1; n <= 5; n++ {
		committed, leaders := 0, 0
		for seed := range 30 {
			c := chance(uint64(100*n + seed))
			g := newGroup(t, fmt.Sprintf("group of %d, run %d", n, seed), n)
			loss := some(c, 0, 5, 30, 60)
			for range 3 {
				for range 400 {
					g.trouble(c, loss)
				}
				g.settle()
			}
			committed += len(g.committed)
			leaders += len(g.leads)
		}
		if committed < 30*15 || leaders < 30*4 {
			t.Errorf("group of %d: only %d were committed, %d led", n, committed, leaders)
		}
	}
}

// TestInTroubleApart: for a while some members hear nothing of the others.
func TestInTroubleApart(t *testing.T) {
	for n := 2; n <= 5; n++ {
		for seed := range 30 {
			c := chance(uint64(1000*n + seed))
			g := newGroup(t, fmt.Sprintf("group of %d, apart, run %d", n, seed), n)
			for range 4 {
				side := c.IntN(1 << n)
				for range 250 {
					g.trouble(c, 5)
					g.under = slices.DeleteFunc(g.under, func(m api.Msg) bool { return side>>(m.From-1)&1 != side>>(m.To-1)&1 })
				}
			}
			g.settle()
		}
	}
}

// TestInTroubleWithFullLogs: where there is no room any more, what is committed stays all the same.
func TestInTroubleWithFullLogs(t *testing.T) {
	for n := 1; n <= 5; n++ {
		full := 0
		for seed := range 4 {
			c := chance(uint64(5000*n + seed))
			g := newGroup(t, fmt.Sprintf("group of %d, full, run %d", n, seed), n)
			g.calm(g.longest())
			who, _ := g.leader()
			for range api.MaxLog - 8 {
				g.propose(who)
			}
			for range 1500 {
				g.trouble(c, 10)
			}
			g.calm(3 * g.longest())
			who, ok := g.leader()
			if !ok {
				t.Fatalf("%s: nobody leads", g.what)
			}
			for g.propose(who) {
			}
			g.calm(2)
			if len(g.members[who].Log) == api.MaxLog {
				full++
			}
			for _, r := range g.members {
				if !reflect.DeepEqual(deepLog(r.Log), deepLog(g.members[who].Log)) {
					t.Errorf("%s: %d has %s, who leads %s", g.what, r.Me, brief(r.Log), brief(g.members[who].Log))
				}
			}
		}
		if full < 4 {
			t.Errorf("group of %d: %d logs were full", n, full)
		}
	}
}

// TestCalm: from the beginning on, whoever waits least leads at that round, and what is proposed is committed by all.
func TestCalm(t *testing.T) {
	for n := 1; n <= 5; n++ {
		for first := range n {
			g := newGroup(t, fmt.Sprintf("group of %d, calm, %d first", n, first+1), n)
			for i := range g.members {
				g.members[i] = raft.New(i+1, n, 10+(n+i-first)%n)
			}
			g.calm(9)
			if who, ok := g.leader(); ok {
				t.Errorf("%s: %d leads ahead of its time", g.what, who+1)
			}
			g.calm(1)
			if who, ok := g.leader(); !ok || who != first || g.members[who].Term != 1 {
				t.Errorf("%s: %d leads: %v", g.what, who+1, ok)
			}
			g.settle()
			g.settle()
			if len(g.leads) != 1 {
				t.Errorf("%s: %d led", g.what, len(g.leads))
			}
		}
	}
}

// TestSameRuns: the same steps tell the same.
func TestSameRuns(t *testing.T) {
	var first *group
	for range 3 {
		c := chance(77)
		g := newGroup(t, "the same", 5)
		for range 2000 {
			g.trouble(c, 10)
		}
		if first == nil {
			first = g
			continue
		}
		if !alikeMsgs(g.under, first.under) {
			t.Error("the letters are others")
		}
		for i, r := range g.members {
			want(t, "the same steps", r, nil, first.members[i], nil)
		}
	}
}
