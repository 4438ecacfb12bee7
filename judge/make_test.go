package judge_test

import (
	"fmt"
	"maps"
	"math/rand/v2"
	"reflect"
	"slices"
	"strconv"
	"strings"
	"testing"

	"diwan/api"
	"diwan/judge"
	"diwan/store"
)

// number reads a whole number.
func number(s string) int {
	n, err := strconv.Atoi(s)
	if err != nil {
		panic(err)
	}
	return n
}

// readOf reads a Read: "a@3" is a at version 3, of which it says no more; "a@3=x" was there as x.
func readOf(s string) api.Read {
	key, rest, _ := strings.Cut(s, "@")
	version, val, there := strings.Cut(rest, "=")
	return api.Read{Key: key, Version: number(version), Val: val, There: there}
}

// writeOf reads a Write: "a=x" is a to be x, "a!" is a gone, "a!x" is gone and has a value, too.
func writeOf(s string) api.Write {
	if key, val, ok := strings.Cut(s, "="); ok {
		return api.Write{Key: key, Val: val}
	}
	key, val, _ := strings.Cut(s, "!")
	return api.Write{Key: key, Val: val, Gone: true}
}

// txnOf reads a transaction: "2:7 a@0 b@3 > c=x a!" is session 2's number 7, which read a and b and writes c and a.
func txnOf(s string) api.Txn {
	front, back, _ := strings.Cut(s, ">")
	all := strings.Fields(front)
	session, seq, _ := strings.Cut(all[0], ":")
	t := api.Txn{Session: number(session), Seq: number(seq)}
	for _, x := range all[1:] {
		t.Reads = append(t.Reads, readOf(x))
	}
	for _, x := range strings.Fields(back) {
		t.Writes = append(t.Writes, writeOf(x))
	}
	return t
}

// rowOf reads transactions, with a semicolon between one and the next.
func rowOf(s string) []api.Txn {
	var l []api.Txn
	for x := range strings.SplitSeq(s, ";") {
		if strings.TrimSpace(x) != "" {
			l = append(l, txnOf(x))
		}
	}
	return l
}

// saidOf reads verdicts: y is Yes, n is No, t is Twice.
func saidOf(s string) []int {
	var l []int
	for _, c := range s {
		l = append(l, map[rune]int{'y': api.Yes, 'n': api.No, 't': api.Twice}[c])
	}
	return l
}

// versionOf reads a version: "3ab" was ab from position 3 on, "3!" was gone from there on, "3!ab" is gone and has a value, too.
func versionOf(s string) api.Version {
	n := 0
	for n < len(s) && s[n] >= '0' && s[n] <= '9' {
		n++
	}
	val, gone := strings.CutPrefix(s[n:], "!")
	return api.Version{Pos: number(s[:n]), Val: val, Gone: gone}
}

// keysOf reads a store of Mark 0: "a=1x,3! b=7y" has two versions of a and one of b.
func keysOf(s string) api.Store {
	var st api.Store
	for _, f := range strings.Fields(s) {
		key, versions, _ := strings.Cut(f, "=")
		c := api.Chain{Key: key}
		for v := range strings.SplitSeq(versions, ",") {
			c.L = append(c.L, versionOf(v))
		}
		st.Chains = append(st.Chains, c)
	}
	return st
}

// seatsOf reads seats: "2:7@30" is session 2's, of its number 7, at position 30.
func seatsOf(s string) []api.Seat {
	var l []api.Seat
	for _, f := range strings.Fields(s) {
		session, rest, _ := strings.Cut(f, ":")
		seq, pos, _ := strings.Cut(rest, "@")
		l = append(l, api.Seat{Session: number(session), Seq: number(seq), Pos: number(pos)})
	}
	return l
}

// clone is a list of its own; of no items it is nil.
func clone[T any](l []T) []T {
	return append([]T(nil), l...)
}

// short is v as a text, cut off where it is too long to be read.
func short(v any) string {
	return fmt.Sprintf("%.400s", fmt.Sprint(v))
}

// enough ends a test of very many cases at the first one that fails.
func enough(t *testing.T) {
	t.Helper()
	if t.Failed() {
		t.FailNow()
	}
}

// answer is what Fold tells.
type answer struct {
	said  []int
	keys  api.Store
	seats []api.Seat
}

// fold is what Fold tells of l.
func fold(l []api.Txn) answer {
	said, keys, seats := judge.Fold(l)
	return answer{said, keys, seats}
}

// own is a in memory of its own, with nil for each list of nothing.
func (a answer) own() answer {
	a.said, a.seats = clone(a.said), clone(a.seats)
	a.keys.Chains = clone(a.keys.Chains)
	for k, c := range a.keys.Chains {
		a.keys.Chains[k].L = clone(c.L)
	}
	return a
}

// is holds answers against each other, a list that is nil and an empty one for one.
func (a answer) is(b answer) bool {
	return reflect.DeepEqual(a.own(), b.own())
}

// plainLast is at which position key was written last by those of l that were judged Yes; 0, if by none.
func plainLast(l []api.Txn, said []int, key string) int {
	last := 0
	for i, u := range l {
		for _, w := range u.Writes {
			if w.Key == key && said[i] == api.Yes {
				last = i + 1
			}
		}
	}
	return last
}

// plainVerdict is P18.1's word on one transaction, which is held against all that stand ahead of it.
func plainVerdict(ahead []api.Txn, said []int, t api.Txn) int {
	for _, u := range ahead {
		if u.Session == t.Session && u.Seq >= t.Seq {
			return api.Twice
		}
	}
	for _, x := range t.Reads {
		if x.Version != plainLast(ahead, said, x.Key) {
			return api.No
		}
	}
	return api.Yes
}

// plainKeys is what was written in the end: of each key, by each that was judged Yes, its first write.
func plainKeys(l []api.Txn, said []int) api.Store {
	all := map[string][]api.Version{}
	for i, u := range l {
		for k := len(u.Writes) - 1; k >= 0 && said[i] == api.Yes; k-- {
			w := u.Writes[k]
			if n := len(all[w.Key]); n > 0 && all[w.Key][n-1].Pos == i+1 {
				all[w.Key] = all[w.Key][:n-1]
			}
			all[w.Key] = append(all[w.Key], api.Version{Pos: i + 1, Val: w.Val, Gone: w.Gone})
		}
	}
	var s api.Store
	for _, key := range slices.Sorted(maps.Keys(all)) {
		s.Chains = append(s.Chains, api.Chain{Key: key, L: all[key]})
	}
	return s
}

// plainSeats is who has had a turn in the end: of each session, where its greatest number stands first.
func plainSeats(l []api.Txn) []api.Seat {
	all := map[int]api.Seat{}
	for i, u := range l {
		if s, ok := all[u.Session]; !ok || u.Seq > s.Seq {
			all[u.Session] = api.Seat{Session: u.Session, Seq: u.Seq, Pos: i + 1}
		}
	}
	var seats []api.Seat
	for _, session := range slices.Sorted(maps.Keys(all)) {
		seats = append(seats, all[session])
	}
	return seats
}

// plainFold is P18.1's word on Fold.
func plainFold(l []api.Txn) answer {
	said := make([]int, len(l))
	for i, t := range l {
		said[i] = plainVerdict(l[:i], said[:i], t)
	}
	return answer{said, plainKeys(l, said), plainSeats(l)}
}

func wantFold(t *testing.T, l []api.Txn, want answer) {
	t.Helper()
	got := fold(l)
	if !slices.Equal(got.said, want.said) {
		t.Errorf("Fold(%s) said %s, want %s", short(l), short(got.said), short(want.said))
	}
	if !got.is(want) {
		t.Errorf("Fold(%s) = %s, %s, want %s, %s", short(l), short(got.keys), short(got.seats), short(want.keys), short(want.seats))
	}
}

// wantPlain holds Fold to the words of P18.1.
func wantPlain(t *testing.T, l []api.Txn) {
	t.Helper()
	wantFold(t, l, plainFold(l))
}

// wantEnd asks what all ends of rows that may be have: keys that may be, all kept, and seats that rise by session, no two at one position.
func wantEnd(t *testing.T, l []api.Txn) {
	t.Helper()
	a := fold(l)
	if !store.May(a.keys) || a.keys.Mark != 0 {
		t.Errorf("Fold(%s): keys that may not be: %s", short(l), short(a.keys))
	}
	at := map[int]bool{}
	for k, s := range a.seats {
		if k > 0 && a.seats[k-1].Session >= s.Session || at[s.Pos] || s.Pos < 1 || s.Pos > len(l) {
			t.Errorf("Fold(%s): seats %s", short(l), short(a.seats))
		}
		at[s.Pos] = true
	}
}

// byHand is a row with what is to be said of each and what there is to be in the end.
type byHand struct{ row, said, keys, seats string }

// hold holds Fold to x, and the plain one to it, too.
func (x byHand) hold(t *testing.T) {
	t.Helper()
	want := answer{saidOf(x.said), keysOf(x.keys), seatsOf(x.seats)}
	wantFold(t, rowOf(x.row), want)
	if got := plainFold(rowOf(x.row)); !got.is(want) {
		t.Errorf("plainFold(%s) = %v", x.row, got)
	}
}

// names are a few keys, rising.
func names() []string {
	return []string{"!", "a", "a!", "aa", "b", "c", "~~~~~~~~"}
}

// some tells up to n of names, rising, each once.
func some(r *rand.Rand, n int) []string {
	all := names()
	r.Shuffle(len(all), func(a, b int) { all[a], all[b] = all[b], all[a] })
	all = all[:r.IntN(min(n, len(all))+1)]
	slices.Sort(all)
	return all
}

// writesByChance makes writes that may be.
func writesByChance(r *rand.Rand) []api.Write {
	var l []api.Write
	for _, key := range some(r, api.MaxWrites) {
		w := api.Write{Key: key, Gone: r.IntN(4) == 0}
		if !w.Gone {
			w.Val = "abcdefghijklmnop"[:r.IntN(api.MaxVal+1)]
		}
		l = append(l, w)
	}
	return l
}

// readsByChance makes reads that may be, nearly all of them of what their keys are behind ahead.
func readsByChance(r *rand.Rand, ahead []api.Txn, said []int) []api.Read {
	var l []api.Read
	for _, key := range some(r, api.MaxReads) {
		x := api.Read{Key: key, Version: plainLast(ahead, said, key)}
		if r.IntN(12) == 0 {
			x.Version = r.IntN(len(ahead) + 2)
		}
		if x.There = x.Version > 0 && r.IntN(3) > 0; x.There {
			x.Val = "zyxw"[:r.IntN(5)]
		}
		l = append(l, x)
	}
	return l
}

// rowByChance makes transactions that may be, of which many are judged Yes, some No, and some Twice.
func rowByChance(r *rand.Rand, most int) []api.Txn {
	var l []api.Txn
	var said []int
	next := map[int]int{}
	for range r.IntN(most + 1) {
		t := api.Txn{Session: 1 + r.IntN(api.MaxSession), Writes: writesByChance(r), Reads: readsByChance(r, l, said)}
		next[t.Session] += r.IntN(4)
		t.Seq = max(1, next[t.Session]-r.IntN(2))
		said = append(said, plainVerdict(l, said, t))
		l = append(l, t)
	}
	return l
}

// wild makes up to most transactions with whatever in them.
func wild(r *rand.Rand, most int) []api.Txn {
	keys := append(names(), "", " ", "\xff", "far too long for a key")
	l := make([]api.Txn, r.IntN(most+1))
	for k := range l {
		l[k] = api.Txn{Session: r.IntN(12) - 3, Seq: r.IntN(12) - 4}
		for range r.IntN(3) {
			l[k].Reads = append(l[k].Reads, api.Read{Key: keys[r.IntN(len(keys))], Version: max(-2, r.IntN(len(l)+12)-11), Val: "far too long for a value", There: r.IntN(2) == 0})
		}
		for range r.IntN(9) {
			l[k].Writes = append(l[k].Writes, api.Write{Key: keys[r.IntN(len(keys))], Val: "far too long for a value"[:r.IntN(25)], Gone: r.IntN(2) == 0})
		}
	}
	return l
}
