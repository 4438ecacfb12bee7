package raft_test

import (
	"fmt"
	"math/rand/v2"
	"reflect"
	"strings"
	"testing"

	"diwan/api"
)

// carried is a transaction of its own for each c.
func carried(c byte) api.Txn {
	return api.Txn{
		Session: 1 + int(c)%api.MaxSession, Seq: 1 + int(c),
		Reads:  []api.Read{{Key: "r" + string(rune('a'+c%26)), Version: int(c), Val: "v", There: true}},
		Writes: []api.Write{{Key: "w", Val: string(rune('a' + c%26))}, {Key: "x", Gone: true}},
	}
}

// seal is a Seal of that term, as who begins to lead proposes it.
func seal(term int) api.Entry { return api.Entry{Term: term, Seal: true} }

// logOf makes a log of words: a term, and a letter for what is carried; S alone is a Seal.
func logOf(s string) []api.Entry {
	var l []api.Entry
	for _, w := range strings.Fields(s) {
		var term int
		var c byte
		if _, err := fmt.Sscanf(w, "%d%c", &term, &c); err != nil {
			panic(w + ": " + err.Error())
		}
		if c == 'S' {
			l = append(l, seal(term))
			continue
		}
		l = append(l, api.Entry{Term: term, T: carried(c)})
	}
	return l
}

// longLog has n entries of that term.
func longLog(n, term int) []api.Entry {
	var l []api.Entry
	for i := range n {
		l = append(l, api.Entry{Term: term, T: carried(byte(i))})
	}
	return l
}

// fresh is what P11.1 says of New.
func fresh(me, nodes, wait int) api.Raft {
	return api.Raft{Me: me, Nodes: nodes, Wait: wait, Votes: make([]bool, nodes), Next: make([]int, nodes), Match: make([]int, nodes)}
}

// of is member me of nodes (which waits 10 ticks) in a role, of a term, with a log; who stands or leads has its own vote, and who leads knows nothing of the others' logs.
func of(me, nodes, role, term int, log []api.Entry) api.Raft {
	r := fresh(me, nodes, 10)
	r.Role, r.Term, r.Log = role, term, log
	if role != api.Follower {
		r.Vote = me
		r.Votes[me-1] = true
	}
	if role == api.Leader {
		r.Leader = me
		for i := range nodes {
			r.Next[i] = len(log) + 1
		}
		r.Match[me-1] = len(log)
	}
	return r
}

// with is r with something else in it.
func with(r api.Raft, turn func(r *api.Raft)) api.Raft {
	r = deep(r)
	turn(&r)
	return r
}

// list is l in memory of its own; nil and an empty one are one.
func list[T any](l []T) []T {
	return append([]T(nil), l...)
}

func deepTxn(t api.Txn) api.Txn {
	t.Reads, t.Writes = list(t.Reads), list(t.Writes)
	return t
}

func deepLog(l []api.Entry) []api.Entry {
	l = list(l)
	for i := range l {
		l[i].T = deepTxn(l[i].T)
	}
	return l
}

func deep(r api.Raft) api.Raft {
	r.Log, r.Votes, r.Next, r.Match = deepLog(r.Log), list(r.Votes), list(r.Next), list(r.Match)
	return r
}

func deepMsg(m api.Msg) api.Msg {
	m.Entries, m.T, m.Keys, m.Got = deepLog(m.Entries), deepTxn(m.T), list(m.Keys), list(m.Got)
	return m
}

func deepMsgs(l []api.Msg) []api.Msg {
	l = list(l)
	for i := range l {
		l[i] = deepMsg(l[i])
	}
	return l
}

func alike(a, b api.Raft) bool { return reflect.DeepEqual(deep(a), deep(b)) }

func alikeMsgs(a, b []api.Msg) bool { return reflect.DeepEqual(deepMsgs(a), deepMsgs(b)) }

// brief tells a log in few words.
func brief(l []api.Entry) string {
	var s []string
	for _, e := range l {
		c := "S"
		if !e.Seal || !reflect.DeepEqual(deepTxn(e.T), api.Txn{}) {
			c = fmt.Sprintf("(%d.%d)", e.T.Session, e.T.Seq)
		}
		s = append(s, fmt.Sprint(e.Term, c))
	}
	return "[" + strings.Join(s, " ") + "]"
}

func briefRaft(r api.Raft) string {
	log := brief(r.Log)
	r.Log = nil
	return fmt.Sprintf("%+v %s", r, log)
}

func briefMsg(m api.Msg) string {
	return fmt.Sprintf("{Kind:%d %d>%d Part:%d Term:%d Index:%d LogTerm:%d Commit:%d OK:%v %s}", m.Kind, m.From, m.To, m.Part, m.Term, m.Index, m.LogTerm, m.Commit, m.OK, brief(m.Entries))
}

func briefMsgs(l []api.Msg) string {
	s := ""
	for _, m := range l {
		s += "\n\t\t" + briefMsg(m)
	}
	return s
}

// want holds a state and letters to those that are asked for.
func want(t *testing.T, what string, got api.Raft, out []api.Msg, wantGot api.Raft, wantOut []api.Msg) {
	t.Helper()
	if !alike(got, wantGot) {
		t.Errorf("%s: the state is\n\t\t%s, want\n\t\t%s", what, briefRaft(got), briefRaft(wantGot))
	}
	if !alikeMsgs(out, wantOut) {
		t.Errorf("%s: the letters are%s, want%s", what, briefMsgs(out), briefMsgs(wantOut))
	}
}

// others are the members that are not me, rising.
func others(r api.Raft) []int {
	var l []int
	for i := 1; i <= r.Nodes; i++ {
		if i != r.Me {
			l = append(l, i)
		}
	}
	return l
}

// chance tells numbers that are the same each time.
func chance(seed uint64) *rand.Rand { return rand.New(rand.NewPCG(seed, 11)) }
