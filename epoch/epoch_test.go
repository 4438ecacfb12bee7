package epoch_test

import (
	"reflect"
	"strconv"
	"strings"
	"testing"

	"diwan/api"
	"diwan/epoch"
)

// carried is a transaction that no other letter carries.
func carried(c byte) api.Txn {
	k := string(rune(c))
	return api.Txn{
		Session: int(c),
		Seq:     1000 + int(c),
		Reads:   []api.Read{{Key: k, Version: int(c), Val: k + k, There: true}, {Key: k + "2"}},
		Writes:  []api.Write{{Key: k, Val: k}, {Key: k + "2", Gone: true}},
	}
}

// logOf makes a log anew: each small letter is a transaction, each capital one a Seal that carries one, each | a Seal that carries nothing.
func logOf(s string) []api.Entry {
	var l []api.Entry
	for k := range len(s) {
		e := api.Entry{Term: 1 + k/2, Seal: s[k] < 'a' || s[k] == '|'}
		if s[k] != '|' {
			e.T = carried(s[k])
		}
		l = append(l, e)
	}
	return l
}

// textOf tells l by what is a Seal and what is not.
func textOf(l []api.Entry) string {
	var b strings.Builder
	for _, e := range l {
		if e.Seal {
			b.WriteByte('|')
		} else {
			b.WriteByte('t')
		}
	}
	return b.String()
}

// batchesOf reads batches: those of "1 2,,4" are 1 and 2, nothing, 4.
func batchesOf(s string) [][]int {
	var all [][]int
	for _, part := range strings.Split(s, ",") {
		var batch []int
		for _, f := range strings.Fields(part) {
			i, err := strconv.Atoi(f)
			if err != nil {
				panic(err)
			}
			batch = append(batch, i)
		}
		all = append(all, batch)
	}
	return all
}

// plainSealed is P13.1's word on Sealed.
func plainSealed(l []api.Entry) int {
	n := 0
	for _, e := range l {
		if e.Seal {
			n++
		}
	}
	return n
}

// plainCut is P13.1's word on Cut: a transaction stands in the list behind so many others as there are Seals ahead of it.
func plainCut(l []api.Entry) [][]int {
	all := make([][]int, plainSealed(l)+1)
	for k, e := range l {
		if !e.Seal {
			n := plainSealed(l[:k])
			all[n] = append(all[n], k+1)
		}
	}
	return all
}

// clone is a list of its own; of no items it is nil.
func clone[T any](l []T) []T {
	return append([]T(nil), l...)
}

// deep is all in memory of its own, nil where a list has no items.
func deep(all [][]int) [][]int {
	all = clone(all)
	for k := range all {
		all[k] = clone(all[k])
	}
	return all
}

// same holds batches against each other, a list that is nil and an empty one for one.
func same(a, b [][]int) bool {
	return reflect.DeepEqual(deep(a), deep(b))
}

// want holds Cut and Sealed of l to batches.
func want(t *testing.T, l []api.Entry, batches [][]int) {
	t.Helper()
	if got := epoch.Cut(l); !same(got, batches) {
		t.Errorf("Cut(%.60s) = %.300v, want %.300v", textOf(l), got, batches)
	}
	if got := epoch.Sealed(l); got != len(batches)-1 {
		t.Errorf("Sealed(%.60s) = %d, want %d", textOf(l), got, len(batches)-1)
	}
}

func TestCut(t *testing.T) {
	for _, x := range []struct{ log, batches string }{
		{"", ""},
		// transactions alone
		{"a", "1"},
		{"ab", "1 2"},
		{"abcde", "1 2 3 4 5"},
		{"aaa", "1 2 3"}, // alike, they are three
		// Seals alone: one list more
		{"|", ","},
		{"||", ",,"},
		{"|||||", ",,,,,"},
		{"ABC", ",,,"},
		{"A|A", ",,,"},
		// at the front, at the end, at both
		{"|a", ",2"},
		{"|abc", ",2 3 4"},
		{"a|", "1,"},
		{"abc|", "1 2 3,"},
		{"|a|", ",2,"},
		{"|abc|", ",2 3 4,"},
		// in the midst
		{"a|b", "1,3"},
		{"ab|c", "1 2,4"},
		{"a|bc", "1,3 4"},
		{"a|b|c", "1,3,5"},
		{"ab|cde|f", "1 2,4 5 6,8"},
		// several, one behind the other
		{"||a", ",,3"},
		{"|||ab", ",,,4 5"},
		{"a||", "1,,"},
		{"ab|||", "1 2,,,"},
		{"a||b", "1,,4"},
		{"ab|||cd", "1 2,,,6 7"},
		{"||a||b||", ",,3,,6,,"},
		// all of it
		{"abCde||fG|h|IJk|", "1 2,4 5,,8,,11,,,15,"},
		{"a|b||c|||d||||e", "1,3,,6,,,10,,,,15"},
		{"ABa", ",,3"},
		{"Zz", ",2"},
		{"zZ", "1,"},
	} {
		want(t, logOf(x.log), batchesOf(x.batches))
		if got := plainCut(logOf(x.log)); !same(got, batchesOf(x.batches)) {
			t.Errorf("plainCut(%s) = %v, want %s", x.log, got, x.batches)
		}
	}
}

func TestSealed(t *testing.T) {
	for _, x := range []struct {
		log  string
		want int
	}{
		{"", 0}, {"a", 0}, {"abcdefgh", 0}, // none
		{"|", 1}, {"||", 2}, {"|||||||", 7}, {"ABCDE", 5}, {"A|B|", 4}, // all
		{"|a", 1}, {"a|", 1}, {"a|b", 1}, {"a||b", 2}, {"|a|", 2}, {"aBcDe", 2}, {"||ab||c", 4},
	} {
		if got := epoch.Sealed(logOf(x.log)); got != x.want {
			t.Errorf("Sealed(%s) = %d, want %d", x.log, got, x.want)
		}
	}
}

// TestCutOfNothing is one empty list, however nothing is handed in.
func TestCutOfNothing(t *testing.T) {
	for _, l := range [][]api.Entry{nil, {}, make([]api.Entry, 0, 3), logOf("|a|")[:0], logOf("|a|")[3:]} {
		got := epoch.Cut(l)
		if len(got) != 1 || len(got[0]) != 0 || epoch.Sealed(l) != 0 {
			t.Errorf("Cut of nothing = %v, Sealed = %d", got, epoch.Sealed(l))
		}
	}
}

// signs tells a log of n entries, of which those are Seals whose bits are set.
func signs(n, seals int) string {
	b := make([]byte, n)
	for k := range b {
		b[k] = byte('a' + k)
		if seals>>k&1 == 1 {
			b[k] = byte("|A"[k%2]) // of both kinds: those that carry nothing, and those that do
		}
	}
	return string(b)
}

// TestCutOfAll: all logs of at most twelve entries.
func TestCutOfAll(t *testing.T) {
	for n := range 13 {
		for seals := range 1 << n {
			l := logOf(signs(n, seals))
			want(t, l, plainCut(l))
		}
		if t.Failed() {
			return
		}
	}
}

// TestEachStandsOnce: of any log, each transaction stands in just one list, in its order, no Seal in any; there is one list more than Sealed tells.
func TestEachStandsOnce(t *testing.T) {
	for n := range 11 {
		for seals := range 1 << n {
			l := logOf(signs(n, seals))
			var transactions, told []int
			for k, e := range l {
				if !e.Seal {
					transactions = append(transactions, k+1)
				}
			}
			got := epoch.Cut(l)
			for _, batch := range got {
				told = append(told, batch...)
			}
			if !reflect.DeepEqual(told, transactions) || len(got) != epoch.Sealed(l)+1 {
				t.Fatalf("Cut(%s) = %v, Sealed = %d", textOf(l), got, epoch.Sealed(l))
			}
		}
	}
}

// TestLong: logs of far more than MaxLog entries.
func TestLong(t *testing.T) {
	for _, every := range []int{1, 2, 3, 200, 65537, 1 << 18} {
		l := make([]api.Entry, 1<<18-1)
		batches, first := [][]int{}, []int(nil)
		for k := range l {
			if (k+1)%every == 0 {
				l[k].Seal = true
				batches, first = append(batches, first), nil
			} else {
				first = append(first, k+1)
			}
		}
		want(t, l, append(batches, first))
	}
}
