package ballot_test

import (
	"math"
	"math/bits"
	"slices"
	"testing"

	"diwan/ballot"
)

func TestMajority(t *testing.T) {
	for _, x := range []struct{ n, want int }{
		{0, 1},
		{1, 1},
		{2, 2},
		{3, 2},
		{4, 3},
		{5, 3},
		{6, 4},
		{7, 4},
		{8, 5},
		{9, 5},
		{100, 51},
		{101, 51},
		{math.MaxInt32, 1 << 30},
		{1 << 32, 1<<31 + 1},
		{math.MaxInt - 1, 1 << 62},
		{math.MaxInt, 1 << 62},
		// below 0, half is rounded down as well
		{-1, 0},
		{-2, 0},
		{-3, -1},
		{-4, -1},
		{-5, -2},
		{math.MinInt + 1, -1<<62 + 1},
		{math.MinInt, -1<<62 + 1},
	} {
		if got := ballot.Majority(x.n); got != x.want {
			t.Errorf("Majority(%d) = %d, want %d", x.n, got, x.want)
		}
	}
}

// TestMajorityOfEach: the one above the half, rounded down: the greatest number that is not above n when doubled.
func TestMajorityOfEach(t *testing.T) {
	for n := -3000; n <= 3000; n++ {
		if half := ballot.Majority(n) - 1; 2*half > n || 2*(half+1) <= n {
			t.Errorf("Majority(%d) = %d", n, half+1)
		}
	}
}

// TestTwoMajoritiesMeet, and two that are less by one need not, so that no fewer would do.
func TestTwoMajoritiesMeet(t *testing.T) {
	votesOf := func(set, n int) []bool {
		var votes []bool
		for i := range n {
			votes = append(votes, set>>i&1 == 1)
		}
		return votes
	}
	for n := range 8 {
		least := ballot.Majority(n)
		apart := n == 0
		for a := range 1 << n {
			for b := range 1 << n {
				of := min(ballot.Many(votesOf(a, n)), ballot.Many(votesOf(b, n)))
				if of >= least && a&b == 0 {
					t.Errorf("of %d, two majorities do not meet: %b, %b", n, a, b)
				}
				apart = apart || of == least-1 && a&b == 0
			}
		}
		if !apart {
			t.Errorf("of %d, fewer than %d would meet, too", n, least)
		}
	}
}

func TestMany(t *testing.T) {
	for _, x := range []struct {
		votes []bool
		want  int
	}{
		{nil, 0},
		{[]bool{}, 0},
		{[]bool{true, true}[:0], 0},
		{[]bool{false}, 0},
		{[]bool{true}, 1},
		{[]bool{false, false, false, false, false}, 0},
		{[]bool{true, true, true, true, true}, 5},
		{[]bool{true, false, false, false, false}, 1},
		{[]bool{false, false, true, false, false}, 1},
		{[]bool{false, false, false, false, true}, 1},
		{[]bool{false, true, true, true, true}, 4},
		{[]bool{true, false, true, false, true}, 3},
		{[]bool{true, true, false, true, true}[1:3], 1},
		{make([]bool, 70000), 0},
		{slices.Repeat([]bool{true}, 70000), 70000},
		{slices.Repeat([]bool{true, false, true}, 30000), 60000},
	} {
		if got := ballot.Many(x.votes); got != x.want {
			t.Errorf("Many of %d votes = %d, want %d", len(x.votes), got, x.want)
		}
	}
}

// TestManyInEveryOrder: all rows of votes, of 0 to 12; and none is changed, nor what stands behind.
func TestManyInEveryOrder(t *testing.T) {
	for n := range 13 {
		for set := range 1 << n {
			all := make([]bool, n+2)
			for i := range all {
				all[i] = i >= n || set>>i&1 == 1
			}
			was := slices.Clone(all)
			if got := ballot.Many(all[:n]); got != bits.OnesCount(uint(set)) {
				t.Errorf("Many(%v) = %d", all[:n], got)
			}
			if !slices.Equal(all, was) {
				t.Errorf("Many changed %v to %v", was, all)
			}
		}
	}
}
