package hard_test

import (
	"fmt"
	"math/rand/v2"
	"reflect"
	"slices"
	"strings"
	"testing"

	"diwan/api"
	"diwan/hard"
)

// All members of these tests are this one, if they are not said to be another.
const (
	me    = 2
	nodes = 5
	wait  = 10
)

// carried is a transaction of its own for each c.
func carried(c byte) api.Txn {
	return api.Txn{
		Session: 1 + int(c)%api.MaxSession, Seq: 1 + int(c),
		Reads:  []api.Read{{Key: "r" + string(rune('a'+c%26)), Version: int(c), Val: "v", There: true}},
		Writes: []api.Write{{Key: "w", Val: string(rune('a' + c%26))}, {Key: "x", Gone: true}},
	}
}

// logOf makes a log of words: a term, and a letter for what is carried; S alone is a Seal.
func logOf(s string) []api.Entry {
	var l []api.Entry
	for _, w := range strings.Fields(s) {
		var term int
		var c byte
		if _, err := fmt.Sscanf(w, "%d%c", &term, &c); err != nil {
			panic(w + ": " + err.Error())
		}
		if c == 'S' {
			l = append(l, api.Entry{Term: term, Seal: true})
			continue
		}
		l = append(l, api.Entry{Term: term, T: carried(c)})
	}
	return l
}

// longLog has n entries of that term.
func longLog(n, term int) []api.Entry {
	var l []api.Entry
	for i := range n {
		l = append(l, api.Entry{Term: term, T: carried(byte(i))})
	}
	return l
}

// fresh is what P11.1 says of New, with lists of so many places as there can be.
func fresh(me, nodes, wait int) api.Raft {
	return api.Raft{Me: me, Nodes: nodes, Wait: wait, Votes: make([]bool, nodes), Next: make([]int, nodes), Match: make([]int, nodes)}
}

// of is a member with just these.
func of(term, vote int, log []api.Entry) api.Raft {
	r := fresh(me, nodes, wait)
	r.Term, r.Vote, r.Log = term, vote, log
	return r
}

// list is l in memory of its own; nil and an empty one are one.
func list[T any](l []T) []T {
	return append([]T(nil), l...)
}

func deepTxn(t api.Txn) api.Txn {
	t.Reads, t.Writes = list(t.Reads), list(t.Writes)
	return t
}

func deepLog(l []api.Entry) []api.Entry {
	l = list(l)
	for i := range l {
		l[i].T = deepTxn(l[i].T)
	}
	return l
}

func deep(r api.Raft) api.Raft {
	r.Log, r.Votes, r.Next, r.Match = deepLog(r.Log), list(r.Votes), list(r.Next), list(r.Match)
	return r
}

func deepAll(l []api.Raft) []api.Raft {
	l = list(l)
	for i := range l {
		l[i] = deep(l[i])
	}
	return l
}

func deepRecs(l [][]byte) [][]byte {
	l = list(l)
	for i := range l {
		l[i] = list(l[i])
	}
	return l
}

func alike(a, b api.Raft) bool { return reflect.DeepEqual(deep(a), deep(b)) }

func alikeAll(a, b []api.Raft) bool { return slices.EqualFunc(a, b, alike) }

func alikeRecs(a, b [][]byte) bool { return reflect.DeepEqual(deepRecs(a), deepRecs(b)) }

// brief tells a log in few words.
func brief(l []api.Entry) string {
	var s []string
	for _, e := range l {
		c := "S"
		if !e.Seal || !reflect.DeepEqual(deepTxn(e.T), api.Txn{}) {
			c = fmt.Sprintf("(%d.%d)", e.T.Session, e.T.Seq)
		}
		s = append(s, fmt.Sprint(e.Term, c))
	}
	return "[" + strings.Join(s, " ") + "]"
}

func briefRaft(r api.Raft) string {
	log := brief(r.Log)
	r.Log = nil
	return fmt.Sprintf("%+v %s", r, log)
}

func briefAll(l []api.Raft) string {
	s := ""
	for _, r := range l {
		s += "\n\t\t" + briefRaft(r)
	}
	return s
}

// wantFold holds Fold of recs to the members that are asked for.
func wantFold(t *testing.T, what string, recs [][]byte, want ...api.Raft) {
	t.Helper()
	if got, ok := hard.Fold(recs, len(want), me, nodes, wait); !ok || !alikeAll(got, want) {
		t.Errorf("%s: Fold says %v,%s\n\twant%s", what, ok, briefAll(got), briefAll(want))
	}
}

// wantNo holds Fold of recs to no, and nothing beside it.
func wantNo(t *testing.T, what string, recs [][]byte, parts int) {
	t.Helper()
	if got, ok := hard.Fold(recs, parts, me, nodes, wait); ok || got != nil {
		t.Errorf("%s: Fold of %x says %v,%s", what, recs, ok, briefAll(got))
	}
}

// to are the records of that log from its beginning up to r.
func to(part int, r api.Raft) [][]byte { return hard.Diff(part, fresh(me, nodes, wait), r) }

// join is lists of records, one behind the other.
func join(l ...[][]byte) [][]byte { return slices.Concat(l...) }

// chance tells numbers that are the same each time.
func chance(seed uint64) *rand.Rand { return rand.New(rand.NewPCG(seed, 12)) }

// some is one of the values.
func some[T any](c *rand.Rand, values ...T) T { return values[c.IntN(len(values))] }
