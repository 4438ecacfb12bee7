package ballot_test

import (
	"math"
	"reflect"
	"slices"
	"testing"

	"diwan/api"
	"diwan/ballot"
)

// logOf makes a log of these terms.
func logOf(terms ...int) []api.Entry {
	var l []api.Entry
	for k, term := range terms {
		l = append(l, api.Entry{Term: term, Seal: k%2 == 0, T: api.Txn{Session: 1, Seq: k + 1, Writes: []api.Write{{Key: "k", Val: "v"}}}})
	}
	return l
}

// plainNext is P10.1's word on Next.
func plainNext(match []int, l []api.Entry, term, commit int) int {
	most := plainMost(match)
	if most <= commit {
		return commit
	}
	for k, e := range l {
		if k+1 == most && e.Term == term {
			return most
		}
	}
	return commit
}

// holdNext holds Next to the promise's words, to never falling below commit, and to leaving all as it is.
func holdNext(t *testing.T, match []int, terms []int, term, commit int) {
	t.Helper()
	l := logOf(terms...)
	wasMatch, wasL := slices.Clone(match), logOf(terms...)
	got := ballot.Next(match, l, term, commit)
	if want := plainNext(wasMatch, wasL, term, commit); got != want {
		t.Errorf("Next(%v, %v, %d, %d) = %d, want %d", wasMatch, terms, term, commit, got, want)
	}
	if got < commit {
		t.Errorf("Next(%v, %v, %d, %d) = %d, which is below commit", wasMatch, terms, term, commit, got)
	}
	if !slices.Equal(match, wasMatch) || !reflect.DeepEqual(l, wasL) {
		t.Errorf("Next(%v, %v, %d, %d) changed them: %v, %v", wasMatch, terms, term, commit, match, l)
	}
}

func TestNext(t *testing.T) {
	log := []int{1, 1, 2, 2, 4}
	for _, x := range []struct {
		match        []int
		log          []int
		term, commit int
		want         int
	}{
		// Most is below commit, just commit, above; with an entry there of that term
		{[]int{3, 3, 3}, log, 2, 4, 4},
		{[]int{3, 3, 3}, log, 2, 3, 3},
		{[]int{3, 3, 3}, log, 2, 2, 3},
		{[]int{3, 3, 3}, log, 2, 0, 3},
		{[]int{1, 1, 1}, log, 1, 0, 1},
		{[]int{5, 5, 5}, log, 4, 4, 5},
		{[]int{5, 5, 5}, log, 4, 0, 5},
		{[]int{5, 5, 5}, log, 4, 5, 5},
		{[]int{5, 5, 5}, log, 4, 6, 6},
		{[]int{5, 5, 5}, log, 4, math.MaxInt, math.MaxInt},
		{[]int{5, 3, 4}, log, 2, 3, 4},
		{[]int{5, 0, 4}, log, 2, 3, 4},
		{[]int{5, 5, 0, 0, 4}, log, 2, 3, 4},
		{[]int{5, 5, 4, 0}, log, 2, 3, 4},
		{[]int{5, 5, 0, 0}, log, 4, 3, 3},
		{[]int{5, 4}, log, 2, 3, 4},
		{[]int{5}, log, 4, 3, 5},
		// of another term: of one ahead, of one behind, of none; though others there are of that term
		{[]int{3, 3, 3}, log, 1, 0, 0},
		{[]int{3, 3, 3}, log, 4, 0, 0},
		{[]int{3, 3, 3}, log, 3, 0, 0},
		{[]int{3, 3, 3}, log, 0, 0, 0},
		{[]int{3, 3, 3}, log, -2, 0, 0},
		{[]int{3, 3, 3}, log, 1<<32 + 2, 0, 0},
		{[]int{3, 3, 3}, log, 1, 1, 1},
		{[]int{2, 2, 2}, log, 2, 1, 1},
		{[]int{5, 5, 5}, log, 2, 3, 3},
		{[]int{4, 4, 4}, log, 4, 3, 3},
		{[]int{3, 3, 3}, []int{1, 1, 9, 1}, 1, 1, 1},
		// no entry there: the log is shorter than Most, by one, by more
		{[]int{6, 6, 6}, log, 4, 4, 4},
		{[]int{6, 6, 6}, log, 0, 4, 4}, // what is not there is not of term 0
		{[]int{7, 7, 7}, log, 4, 0, 0},
		{[]int{200, 200, 200}, log, 4, 2, 2},
		{[]int{math.MaxInt, math.MaxInt, math.MaxInt}, log, 4, 2, 2},
		{[]int{math.MaxInt, math.MaxInt, math.MaxInt}, log, 0, 2, 2},
		{[]int{1 << 32, 1 << 32, 1<<32 + 1}, log, 1, 0, 0},
		// an empty log
		{[]int{1, 1, 1}, nil, 1, 0, 0},
		{[]int{1, 1, 1}, nil, 0, 0, 0},
		{[]int{0, 0, 0}, nil, 0, 0, 0},
		{[]int{0, 0, 0}, nil, 0, 3, 3},
		{nil, nil, 0, 0, 0},
		{nil, nil, 3, 7, 7},
		// of nobody, and of who has nothing
		{nil, log, 1, 0, 0},
		{nil, log, 1, 2, 2},
		{[]int{}, log, 0, 0, 0},
		{[]int{0, 0, 0}, log, 1, 0, 0},
		{[]int{0, 0, 5}, log, 4, 0, 0},
		{[]int{0, 0, 5}, log, 4, 1, 1},
		// terms beyond those of logs
		{[]int{1}, []int{0}, 0, 0, 1},
		{[]int{1}, []int{-7}, -7, 0, 1},
		{[]int{1}, []int{math.MinInt}, math.MinInt, 0, 1},
		{[]int{1}, []int{math.MaxInt}, math.MaxInt, 0, 1},
		// places below 1: there is no entry
		{[]int{0, 0, 0}, log, 1, -1, -1},
		{[]int{0, 0, 0}, log, 0, -1, -1},
		{nil, log, 1, -4, -4},
		{nil, nil, 0, math.MinInt, math.MinInt},
		{[]int{-1, -1, -1}, log, 1, -2, -2},
		{[]int{-1, -1, -1}, log, 1, 0, 0},
		{[]int{-1, -1, -1}, log, 0, math.MinInt, math.MinInt},
		{[]int{math.MinInt}, log, 0, math.MinInt, math.MinInt},
		{[]int{1, 1, 1}, log, 1, -2, 1},
		{[]int{5, 5, 5}, log, 4, math.MinInt, 5},
	} {
		if got := ballot.Next(x.match, logOf(x.log...), x.term, x.commit); got != x.want {
			t.Errorf("Next(%v, %v, %d, %d) = %d, want %d", x.match, x.log, x.term, x.commit, got, x.want)
		}
		holdNext(t, x.match, x.log, x.term, x.commit)
	}
}

// TestNextOfAll: all short logs, with all of up to three members, each term and each commit.
func TestNextOfAll(t *testing.T) {
	for _, terms := range rows([]int{0, 1, 2}, 3) {
		for _, match := range rows([]int{0, 1, 2, 3, 4}, 3) {
			for term := -1; term <= 3; term++ {
				for commit := -1; commit <= 5; commit++ {
					holdNext(t, match, terms, term, commit)
				}
			}
		}
		if t.Failed() {
			return
		}
	}
}

// TestNextAtTheEdges: whatever it is handed, it ends, and never falls.
func TestNextAtTheEdges(t *testing.T) {
	edges := []int{math.MinInt, math.MinInt + 1, math.MinInt32, -2, -1, 0, 1, 2, 3, 4, math.MaxInt32, 1 << 32, 1<<32 + 1, math.MaxInt - 1, math.MaxInt}
	for _, terms := range [][]int{nil, {0}, {1}, {1, 1, 2}, {math.MaxInt, math.MinInt, -1}, {2, 1, 0}} {
		for _, most := range edges {
			for _, term := range edges {
				for _, commit := range edges {
					holdNext(t, []int{most}, terms, term, commit)
					holdNext(t, []int{most, math.MaxInt, math.MinInt}, terms, term, commit)
				}
			}
		}
	}
}

// TestNextAsksEntriesAlone for their terms: not for what they carry, nor for what stands behind the log.
func TestNextAsksEntriesAlone(t *testing.T) {
	all := logOf(1, 2, 3, 3)
	was := logOf(1, 2, 3, 3)
	for _, x := range []struct{ most, n, want int }{{3, 2, 0}, {3, 3, 3}, {4, 3, 0}, {4, 4, 4}, {2, 2, 0}} {
		if got := ballot.Next([]int{x.most}, all[:x.n], 3, 0); got != x.want {
			t.Errorf("Next of %d with %d entries = %d, want %d", x.most, x.n, got, x.want)
		}
	}
	if got := ballot.Next([]int{1}, all[2:], 3, 0); got != 1 {
		t.Errorf("Next of a piece = %d", got)
	}
	if got := ballot.Next([]int{2}, make([]api.Entry, 2), 0, 0); got != 2 {
		t.Errorf("Next of entries of nothing = %d", got)
	}
	if !reflect.DeepEqual(all, was) {
		t.Errorf("what was handed in is now %v", all)
	}
}

// TestNextAgain: from what it told, it tells the same.
func TestNextAgain(t *testing.T) {
	for _, match := range rows([]int{0, 1, 2, 3, 4}, 3) {
		l := logOf(1, 2, 2)
		once := ballot.Next(match, l, 2, 0)
		if twice := ballot.Next(match, l, 2, once); twice != once {
			t.Errorf("Next of %v = %d, then %d", match, once, twice)
		}
	}
}

func FuzzNext(f *testing.F) {
	f.Add([]byte{3, 3, 3}, []byte{1, 1, 2, 2, 4}, 2, 0)
	f.Add([]byte{3, 2, 5}, []byte{1, 1, 2, 2, 4}, 1, 3)
	f.Add([]byte{6, 6}, []byte{1, 1, 2, 2, 4}, 0, 1)
	f.Add([]byte{}, []byte{}, 0, -1)
	f.Fuzz(func(t *testing.T, match, terms []byte, term, commit int) {
		m, l := numbers(match[:min(len(match), 500)], true), numbers(terms, true)
		holdNext(t, m, l, term, commit)
		// Most and the terms are small: so are these, so that all cases come up.
		holdNext(t, m, l, term&3, commit&7)
		holdNext(t, m, l, plainTermAt(l, plainMost(m)), commit&7)
	})
}

// plainTermAt is what stands at a place, the first of which is 1; 0 where nothing stands.
func plainTermAt(terms []int, i int) int {
	if i < 1 || i > len(terms) {
		return 0
	}
	return terms[i-1]
}
