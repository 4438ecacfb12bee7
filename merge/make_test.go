package merge_test

import (
	"math/rand/v2"
	"reflect"
	"sort"
	"strconv"
	"strings"
	"testing"

	"diwan/api"
	"diwan/merge"
)

// carried is a transaction that no other letter carries.
func carried(c byte) api.Txn {
	k := string(rune(c))
	return api.Txn{
		Session: int(c),
		Seq:     1000 + int(c),
		Reads:   []api.Read{{Key: k, Version: int(c), Val: k + k, There: true}, {Key: k + "2"}},
		Writes:  []api.Write{{Key: k, Val: k}, {Key: k + "2", Gone: true}},
	}
}

// logOf makes a log anew: each small letter is a transaction, each capital one a Seal that carries one, each | a Seal that carries nothing.
func logOf(s string) []api.Entry {
	var l []api.Entry
	for k := range len(s) {
		e := api.Entry{Term: 1 + k/2, Seal: s[k] < 'a' || s[k] == '|'}
		if s[k] != '|' {
			e.T = carried(s[k])
		}
		l = append(l, e)
	}
	return l
}

// logsOf makes logs anew, with a comma between one and the next: of no text it is one empty log.
func logsOf(s string) [][]api.Entry {
	var logs [][]api.Entry
	for _, one := range strings.Split(s, ",") {
		logs = append(logs, logOf(one))
	}
	return logs
}

// textOf tells logs by what is a Seal and what is not.
func textOf(logs [][]api.Entry) string {
	var b strings.Builder
	for k, l := range logs {
		if k > 0 {
			b.WriteByte(',')
		}
		for _, e := range l {
			if e.Seal {
				b.WriteByte('|')
			} else {
				b.WriteByte('t')
			}
		}
	}
	return b.String()
}

// placesOf reads places: "0.1a 2.4b" is what a carries, at index 1 of log 0, and what b carries, at index 4 of log 2.
func placesOf(s string) []api.Place {
	var all []api.Place
	for _, f := range strings.Fields(s) {
		part, rest, _ := strings.Cut(f, ".")
		p, err := strconv.Atoi(part)
		if err != nil {
			panic(err)
		}
		i, err := strconv.Atoi(rest[:len(rest)-1])
		if err != nil {
			panic(err)
		}
		all = append(all, api.Place{Part: p, Index: i, T: carried(rest[len(rest)-1])})
	}
	return all
}

// where tells places by their logs and indices alone.
func where(l []api.Place) string {
	var all []string
	for _, p := range l {
		all = append(all, strconv.Itoa(p.Part)+"."+strconv.Itoa(p.Index))
	}
	return strings.Join(all, " ")
}

// seals tells how many Seals stand in l.
func seals(l []api.Entry) int {
	n := 0
	for _, e := range l {
		if e.Seal {
			n++
		}
	}
	return n
}

// plainHead is P14.1's word on Head: of the last batches of all logs, the one that comes first.
func plainHead(logs [][]api.Entry) int {
	head, least := -1, 0
	for part := len(logs) - 1; part >= 0; part-- {
		if n := seals(logs[part]); head < 0 || n <= least {
			head, least = part, n
		}
	}
	return head
}

// plainAll is P14.1's word on All: all transactions sorted by how many Seals are ahead of each, by log, by index, without those behind the end.
func plainAll(logs [][]api.Entry) []api.Place {
	type stand struct {
		batch int
		place api.Place
	}
	var all []stand
	head, end := plainHead(logs), 0
	if head >= 0 {
		end = seals(logs[head])
	}
	for part, l := range logs {
		batch := 0
		for k, e := range l {
			if e.Seal {
				batch++
				continue
			}
			if batch < end || batch == end && part <= head {
				all = append(all, stand{batch, api.Place{Part: part, Index: k + 1, T: e.T}})
			}
		}
	}
	sort.SliceStable(all, func(i, j int) bool {
		a, b := all[i], all[j]
		if a.batch != b.batch {
			return a.batch < b.batch
		}
		if a.place.Part != b.place.Part {
			return a.place.Part < b.place.Part
		}
		return a.place.Index < b.place.Index
	})
	var places []api.Place
	for _, s := range all {
		places = append(places, s.place)
	}
	return places
}

// plainFirst is P14.1's word on First: of all positions of that session and number the least.
func plainFirst(l []api.Place, session, seq int) int {
	first := 0
	for k := len(l) - 1; k >= 0; k-- {
		if [2]int{l[k].T.Session, l[k].T.Seq} == [2]int{session, seq} {
			first = k + 1
		}
	}
	return first
}

// clone is a list of its own; of no items it is nil.
func clone[T any](l []T) []T {
	return append([]T(nil), l...)
}

// own is t in memory of its own, nil where a list has no items.
func own(t api.Txn) api.Txn {
	t.Reads, t.Writes = clone(t.Reads), clone(t.Writes)
	return t
}

// deep is l in memory of its own, nil where a list has no items.
func deep(l []api.Place) []api.Place {
	l = clone(l)
	for k := range l {
		l[k].T = own(l[k].T)
	}
	return l
}

// same holds places against each other, a list that is nil and an empty one for one.
func same(a, b []api.Place) bool {
	return reflect.DeepEqual(deep(a), deep(b))
}

// want holds All of logs to places, and Head to head.
func want(t *testing.T, logs [][]api.Entry, places []api.Place, head int) {
	t.Helper()
	if got := merge.All(logs); !same(got, places) {
		t.Errorf("All(%.200s) = %.300s, want %.300s\n%.400v\n%.400v", textOf(logs), where(got), where(places), got, places)
	}
	if got := merge.Head(logs); got != head {
		t.Errorf("Head(%.200s) = %d, want %d", textOf(logs), got, head)
	}
}

// wantPlain holds All and Head of logs to the words of P14.1.
func wantPlain(t *testing.T, logs [][]api.Entry) {
	t.Helper()
	want(t, logs, plainAll(logs), plainHead(logs))
}

// signs tells all logs of at most n entries.
func signs(n int) []string {
	all := []string{""}
	for from := 0; n > 0; n-- {
		to := len(all)
		for _, s := range all[from:to] {
			all = append(all, s+"t", s+"|")
		}
		from = to
	}
	return all
}

// lettered tells logs in which no transaction carries what another one does, and each second Seal carries something.
func lettered(logs ...string) [][]api.Entry {
	var all [][]api.Entry
	c := byte('a')
	for _, s := range logs {
		b := []byte(s)
		for k := range b {
			if b[k] == 't' {
				b[k], c = c, c+1
			} else if k%2 == 1 {
				b[k] = 'S'
			}
		}
		all = append(all, logOf(string(b)))
	}
	return all
}

// chance makes a log of n entries, of which one in so many is a Seal.
func chance(r *rand.Rand, n, in int) []api.Entry {
	l := make([]api.Entry, n)
	for k := range l {
		l[k] = api.Entry{Term: r.IntN(5) - 1, Seal: r.IntN(in) == 0}
		if r.IntN(4) > 0 {
			l[k].T = carried(byte('a' + r.IntN(26)))
		}
	}
	return l
}

// chances makes up to most logs of up to n entries each.
func chances(r *rand.Rand, most, n int) [][]api.Entry {
	logs := make([][]api.Entry, r.IntN(most+1))
	in := 1 + r.IntN(20)
	for k := range logs {
		logs[k] = chance(r, r.IntN(n+1), in)
	}
	return logs
}
