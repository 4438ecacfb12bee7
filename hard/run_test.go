package hard_test

import (
	"fmt"
	"math/rand/v2"
	"slices"
	"testing"

	"diwan/api"
	"diwan/hard"
	"diwan/raft"
)

// group is members, each with its part in several logs, their letters under way, and what each has written down.
type group struct {
	t        *testing.T
	what     string
	members  [][]api.Raft // of each member, of each log
	under    []api.Msg
	written  [][]byte // of each member, all packs, one behind the other
	recs     [][][]byte
	proposed int
	kinds    map[int]int // how many records there were at once
}

func newGroup(t *testing.T, what string, n, parts int) *group {
	g := &group{t: t, what: what, written: make([][]byte, n), recs: make([][][]byte, n), kinds: map[int]int{}}
	for i := range n {
		var logs []api.Raft
		for range parts {
			logs = append(logs, raft.New(i+1, n, waits(n, i)))
		}
		g.members = append(g.members, logs)
	}
	return g
}

// waits tells how long member i of n waits: all unlike.
func waits(n, i int) int { return 3 + (2*i+1)%(2*n) }

// turned writes down what has become of a member's part in a log.
func (g *group) turned(i, part int, r api.Raft, out []api.Msg) {
	recs := hard.Diff(part, g.members[i][part], r)
	b := hard.Pack(recs)
	g.written[i] = append(g.written[i], b...)
	g.recs[i] = append(g.recs[i], recs...)
	g.kinds[len(recs)]++
	g.members[i][part] = r
	for _, m := range out {
		m.Part = part
		if len(g.under) < 1000 {
			g.under = append(g.under, m)
		}
	}
}

func (g *group) tick(i, part int) {
	r, out := raft.Tick(g.members[i][part])
	g.turned(i, part, r, out)
}

func (g *group) propose(i, part int) {
	g.proposed++
	r, out, _ := raft.Propose(g.members[i][part], api.Entry{T: api.Txn{
		Session: 1 + i, Seq: 1 + g.proposed%api.MaxSeq, Writes: []api.Write{{Key: "k", Val: fmt.Sprint(g.proposed)}},
	}})
	g.turned(i, part, r, out)
}

func (g *group) give(k int, twice bool) {
	m := g.under[k]
	if !twice {
		g.under = slices.Delete(g.under, k, k+1)
	}
	r, out := raft.Take(g.members[m.To-1][m.Part], m)
	g.turned(m.To-1, m.Part, r, out)
}

// folded is member i as what it has written down says.
func (g *group) folded(i int) []api.Raft {
	recs, ok := hard.Unpack(g.written[i])
	if !ok || !alikeRecs(recs, g.recs[i]) {
		g.t.Fatalf("%s: Unpack of what member %d has written: %d texts, %v", g.what, i+1, len(recs), ok)
	}
	n := len(g.members)
	l, ok := hard.Fold(recs, len(g.members[i]), i+1, n, waits(n, i))
	if !ok {
		g.t.Fatalf("%s: Fold of what member %d has written: no", g.what, i+1)
	}
	return l
}

// check holds what each member has written to what it is now: as it comes up behind a crash.
func (g *group) check(i int) {
	g.t.Helper()
	for part, got := range g.folded(i) {
		if want := raft.Again(g.members[i][part]); !alike(got, want) {
			g.t.Fatalf("%s: member %d of log %d is\n\t\t%s, folded it is\n\t\t%s", g.what, i+1, part, briefRaft(want), briefRaft(got))
		}
	}
}

// crash brings member i up anew, by what it has written down.
func (g *group) crash(i int) {
	g.check(i)
	copy(g.members[i], g.folded(i))
}

// trouble is one step in which anything may happen.
func (g *group) trouble(c *rand.Rand, loss int) {
	i := c.IntN(len(g.members))
	part := c.IntN(len(g.members[i]))
	switch x := c.IntN(100); {
	case x < 30:
		g.tick(i, part)
	case x < 40:
		g.propose(i, part)
	case x == 40:
		g.crash(i)
	case len(g.under) == 0:
	case c.IntN(100) < loss:
		k := c.IntN(len(g.under))
		g.under = slices.Delete(g.under, k, k+1)
	default:
		// The first ones mostly, so that most are not too late to count.
		g.give(min(c.IntN(len(g.under)), c.IntN(len(g.under))), c.IntN(8) == 0)
	}
}

// TestFoldOfAllDiffsIsNow: over runs of members in trouble, of one log and of several, with crashes behind which a member is what its records say.
func TestFoldOfAllDiffsIsNow(t *testing.T) {
	for n := 1; n <= 5; n++ {
		entries, unlike := 0, 0
		for seed := range 12 {
			c := chance(uint64(100*n + seed))
			parts := 1 + seed%3
			g := newGroup(t, fmt.Sprintf("group of %d, %d logs, run %d", n, parts, seed), n, parts)
			loss := some(c, 0, 5, 30)
			for k := range 2000 {
				g.trouble(c, loss)
				if k%97 == 0 {
					g.check(k % n)
				}
			}
			for i := range g.members {
				g.check(i)
				for _, r := range g.members[i] {
					entries += len(r.Log)
				}
			}
			for k, many := range g.kinds {
				if k > 1 {
					unlike += many
				}
			}
		}
		if entries < 500 || unlike == 0 {
			t.Errorf("group of %d: %d entries, %d turns of more than one record", n, entries, unlike)
		}
	}
}

// someLog has n entries, whose terms rise from 1 to term at most; few transactions, so that logs have much in common.
func someLog(c *rand.Rand, n, term int) []api.Entry {
	var l []api.Entry
	at := 1
	for range n {
		if at < term && c.IntN(4) == 0 {
			at++
		}
		e := api.Entry{Term: at, Seal: c.IntN(4) == 0}
		if !e.Seal {
			e.T = carried(byte(c.IntN(2)))
		}
		l = append(l, e)
	}
	return l
}

// TestMany: states by chance, one behind the other, term and log free to fall.
func TestMany(t *testing.T) {
	for seed := range 300 {
		c := chance(uint64(9000 + seed))
		now := []api.Raft{of(0, 0, nil), of(0, 0, nil), of(0, 0, nil)}
		var all [][]byte
		for range 12 {
			part := c.IntN(3)
			b := of(some(c, 0, 1, 2, 3, 4, 1<<50, now[part].Term), c.IntN(nodes+1), nil)
			if b.Term > 0 {
				b.Log = someLog(c, c.IntN(8), min(b.Term, 5))
			}
			if keep := c.IntN(len(now[part].Log) + 1); c.IntN(2) == 0 && (keep == 0 || now[part].Log[keep-1].Term <= b.Term) {
				b.Log = deepLog(now[part].Log[:keep])
			}
			wantDiff(t, fmt.Sprintf("seed %d", seed), now[part], b)
			all = append(all, hard.Diff(part, now[part], b)...)
			now[part] = b
			wantFold(t, fmt.Sprintf("seed %d", seed), all, now...)
			recs, ok := hard.Unpack(hard.Pack(all))
			if !ok || !alikeRecs(recs, all) {
				t.Errorf("seed %d: Unpack of Pack: %v", seed, ok)
			}
		}
	}
}

// FuzzFold: whatever the records, what is told may be, and comes back by its own Diff.
func FuzzFold(f *testing.F) {
	for _, x := range folds() {
		f.Add(hard.Pack(x), 2)
	}
	for _, x := range likely() {
		f.Add(hard.Pack(join(x.ahead, x.rec)), 2)
	}
	f.Fuzz(func(t *testing.T, b []byte, parts int) {
		recs, ok := hard.Unpack(b)
		if !ok {
			return
		}
		if parts > 9 {
			parts = 9
		}
		got, ok := hard.Fold(recs, parts, me, nodes, wait)
		if !ok {
			if got != nil {
				t.Error("something stands beside a no")
			}
			return
		}
		var again [][]byte
		for part, r := range got {
			if !raft.May(r) {
				t.Errorf("%s may not be", briefRaft(r))
			}
			again = append(again, to(part, r)...)
		}
		wantFold(t, "again", again, got...)
	})
}
