package merge_test

import (
	"math/rand/v2"
	"strings"
	"testing"

	"diwan/api"
	"diwan/merge"
)

// sealed makes logs with so many Seals each, and transactions in between, no log as many of them as the one ahead.
func sealed(counts ...int) [][]api.Entry {
	var logs [][]api.Entry
	for k, n := range counts {
		t := "abcde"[:1+k%5]
		logs = append(logs, logOf(strings.Repeat(t+"|", n)+t))
	}
	return logs
}

func TestHead(t *testing.T) {
	for _, x := range []struct {
		seals []int
		want  int
	}{
		{nil, -1},
		{[]int{0}, 0},
		{[]int{1}, 0},
		{[]int{9}, 0},
		// two
		{[]int{0, 0}, 0},
		{[]int{0, 1}, 0},
		{[]int{1, 0}, 1},
		{[]int{1, 1}, 0},
		{[]int{7, 8}, 0},
		{[]int{8, 7}, 1},
		// three: the one that is sealed least often
		{[]int{1, 2, 3}, 0},
		{[]int{1, 3, 2}, 0},
		{[]int{2, 1, 3}, 1},
		{[]int{3, 1, 2}, 1},
		{[]int{2, 3, 1}, 2},
		{[]int{3, 2, 1}, 2},
		// several of these: the first one
		{[]int{2, 2, 2}, 0},
		{[]int{2, 2, 3}, 0},
		{[]int{2, 3, 2}, 0},
		{[]int{3, 2, 2}, 1},
		{[]int{9, 9, 0, 9, 0, 0}, 2},
		{[]int{9, 8, 7, 6, 5, 4, 3, 3, 3, 4}, 6},
		{[]int{5, 4, 4, 5, 4, 3, 5, 3}, 5},
		{[]int{200, 100, 199}, 1},
	} {
		if got := merge.Head(sealed(x.seals...)); got != x.want {
			t.Errorf("Head of logs with %v Seals = %d, want %d", x.seals, got, x.want)
		}
		wantPlain(t, sealed(x.seals...))
	}
}

// rows are all rows of at most n of the numbers below most.
func rows(most, n int) [][]int {
	all := [][]int{nil}
	for from := 0; n > 0; n-- {
		to := len(all)
		for _, r := range all[from:to] {
			for v := range most {
				all = append(all, append(clone(r), v))
			}
		}
		from = to
	}
	return all
}

// TestHeadOfAll: all short rows of numbers of Seals, in every order.
func TestHeadOfAll(t *testing.T) {
	for _, most := range []int{2, 3, 4} {
		for _, seals := range rows(most, 6) {
			wantPlain(t, sealed(seals...))
		}
	}
}

// TestHeadHeedsSealsAlone: how many transactions a log has, of which terms, and what a Seal carries is nothing to Head.
func TestHeadHeedsSealsAlone(t *testing.T) {
	for _, x := range []struct {
		logs string
		want int
	}{
		{"abcdefgh|,a", 1}, {"a,abcdefgh|", 0}, {"abcdefgh,a|", 0}, {"abcdefgh|,a|", 0}, {"a|,abcdefgh", 1},
		{"|,abc|def", 0}, {"||,abc|def", 1}, {"A,B", 0}, {"AB,C", 1}, {"ABC,|,||", 1}, {"abc,,", 0},
	} {
		logs := logsOf(x.logs)
		if got := merge.Head(logs); got != x.want {
			t.Errorf("Head(%s) = %d, want %d", x.logs, got, x.want)
		}
		for _, l := range logs {
			for k := range l {
				l[k].Term, l[k].T = -k, api.Txn{Session: -k}
			}
		}
		if got := merge.Head(logs); got != x.want {
			t.Errorf("Head(%s), with other terms and transactions = %d, want %d", x.logs, got, x.want)
		}
	}
}

// TestHeadIsWhereAllEnds: one transaction more at the end of that log, and of none but that, stands in the order, as its last one.
func TestHeadIsWhereAllEnds(t *testing.T) {
	r := rand.New(rand.NewPCG(3, 14))
	for range 300 {
		logs := chances(r, 6, 40)
		was, head := merge.All(logs), merge.Head(logs)
		for part := range logs {
			got := merge.All(grown(logs, part, api.Entry{T: carried('z')}))
			places := was
			if part == head {
				places = append(clone(was), api.Place{Part: part, Index: len(logs[part]) + 1, T: carried('z')})
			}
			if !same(got, places) {
				t.Fatalf("All(%s), with one more in log %d: %s", textOf(logs), part, where(got))
			}
		}
	}
}
