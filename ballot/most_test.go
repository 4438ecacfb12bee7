package ballot_test

import (
	"encoding/binary"
	"math"
	"slices"
	"testing"

	"diwan/ballot"
)

// haveOrAbove tells how many of match have v or are above.
func haveOrAbove(match []int, v int) int {
	n := 0
	for _, m := range match {
		if m >= v {
			n++
		}
	}
	return n
}

// majority tells whether so many of all are more than the rest.
func majority(n, all int) bool {
	return n > all-n
}

// plainMost is P10.1's word on Most.
func plainMost(match []int) int {
	most, some := 0, false
	for _, v := range match {
		if majority(haveOrAbove(match, v), len(match)) && (!some || v > most) {
			most, some = v, true
		}
	}
	return most
}

// holdMost holds Most to the promise's own words, and to leaving match as it is.
func holdMost(t *testing.T, match []int) {
	t.Helper()
	was := slices.Clone(match)
	got := ballot.Most(match)
	if !slices.Equal(match, was) {
		t.Errorf("Most(%v) changed it to %v", was, match)
	}
	if want := plainMost(was); got != want {
		t.Errorf("Most(%v) = %d, want %d", was, got, want)
	}
	if len(was) == 0 {
		return
	}
	if !majority(haveOrAbove(was, got), len(was)) {
		t.Errorf("Most(%v) = %d, which no majority has or is above", was, got)
	}
	if got < math.MaxInt && majority(haveOrAbove(was, got+1), len(was)) {
		t.Errorf("Most(%v) = %d, but a majority is above", was, got)
	}
}

func TestMost(t *testing.T) {
	for _, x := range []struct {
		match []int
		want  int
	}{
		{nil, 0},
		{[]int{}, 0},
		{[]int{7, 8}[:0], 0},
		// one
		{[]int{0}, 0},
		{[]int{1}, 1},
		{[]int{200}, 200},
		{[]int{-3}, -3},
		{[]int{math.MaxInt}, math.MaxInt},
		{[]int{math.MinInt}, math.MinInt},
		// two: both have what the lesser has
		{[]int{3, 5}, 3},
		{[]int{5, 3}, 3},
		{[]int{0, 5}, 0},
		{[]int{5, 0}, 0},
		{[]int{4, 4}, 4},
		// three: the middle one
		{[]int{1, 2, 3}, 2},
		{[]int{1, 3, 2}, 2},
		{[]int{2, 1, 3}, 2},
		{[]int{2, 3, 1}, 2},
		{[]int{3, 1, 2}, 2},
		{[]int{3, 2, 1}, 2},
		{[]int{0, 0, 9}, 0},
		{[]int{9, 0, 0}, 0},
		{[]int{0, 9, 9}, 9},
		{[]int{9, 0, 8}, 8},
		// four: three have the lesser of the middle ones, two alone the greater
		{[]int{1, 2, 3, 4}, 2},
		{[]int{4, 3, 2, 1}, 2},
		{[]int{3, 1, 4, 2}, 2},
		{[]int{7, 7, 0, 0}, 0},
		{[]int{7, 7, 7, 0}, 7},
		{[]int{0, 7, 7, 7}, 7},
		// five
		{[]int{1, 2, 3, 4, 5}, 3},
		{[]int{5, 4, 3, 2, 1}, 3},
		{[]int{5, 1, 4, 2, 3}, 3},
		{[]int{0, 0, 0, 4, 5}, 0},
		{[]int{9, 0, 9, 0, 0}, 0},
		{[]int{9, 0, 9, 0, 1}, 1},
		{[]int{9, 0, 9, 0, 9}, 9},
		{[]int{6, 6, 6, 6, 6}, 6},
		{[]int{0, 0, 0, 0, 0}, 0},
		{[]int{2, 2, 1, 1, 1}, 1},
		{[]int{2, 1, 2, 1, 2}, 2},
		// more
		{[]int{1, 2, 3, 4, 5, 6}, 3},
		{[]int{6, 5, 4, 3, 2, 1}, 3},
		{[]int{10, 70, 30, 50, 20, 60, 40}, 40},
		// numbers beyond those of logs
		{[]int{-1, -2, -3}, -2},
		{[]int{-1, 5, -3}, -1},
		{[]int{-4, -4}, -4},
		{[]int{math.MinInt, math.MaxInt}, math.MinInt},
		{[]int{math.MaxInt, math.MinInt, math.MaxInt}, math.MaxInt},
		{[]int{math.MinInt, 0, math.MaxInt}, 0},
		{[]int{1 << 32, 1, 1<<32 + 1}, 1 << 32},
	} {
		if got := ballot.Most(x.match); got != x.want {
			t.Errorf("Most(%v) = %d, want %d", x.match, got, x.want)
		}
		holdMost(t, x.match)
	}
}

// rows are all rows of at most n of the values.
func rows(values []int, n int) [][]int {
	all := [][]int{nil}
	for from := 0; n > 0; n-- {
		to := len(all)
		for _, r := range all[from:to] {
			for _, v := range values {
				all = append(all, append(slices.Clone(r), v))
			}
		}
		from = to
	}
	return all
}

// TestMostOfAll: all short rows, so that each number stands once, many times, or not at all, in every order.
func TestMostOfAll(t *testing.T) {
	for _, values := range [][]int{{0, 1, 2, 3, 4}, {-1, 0, 7}, {math.MinInt, -1, 0, math.MaxInt}} {
		for _, match := range rows(values, 6) {
			holdMost(t, match)
		}
	}
}

// scattered are n numbers, most of them unlike, in no order, as a plain rule tells them.
func scattered(n int) []int {
	l := make([]int, n)
	at := uint32(n)
	for i := range l {
		at = at*1664525 + 1013904223
		l[i] = int(at >> 12 % uint32(2*n))
	}
	return l
}

// TestMostOfMany: of each length, all alike, rising, falling, in no order, and by turns.
func TestMostOfMany(t *testing.T) {
	for n := range 200 {
		alike, rising, falling, turns := make([]int, n), make([]int, n), make([]int, n), make([]int, n)
		for i := range n {
			alike[i], rising[i], falling[i], turns[i] = 9, i, n-i, i%3
		}
		for _, match := range [][]int{alike, rising, falling, turns, scattered(n)} {
			holdMost(t, match)
		}
	}
}

// TestMostOfVeryMany: it ends soon, however many they are.
func TestMostOfVeryMany(t *testing.T) {
	const n = 1 << 18
	rising, falling := make([]int, n), make([]int, n)
	for i := range n {
		rising[i], falling[i] = i, n-1-i
	}
	for _, match := range [][]int{rising, falling} {
		// n/2 and one of them are from n/2 - 1 on.
		if got := ballot.Most(match); got != n/2-1 {
			t.Errorf("Most = %d, want %d", got, n/2-1)
		}
	}
	if got, want := ballot.Most(scattered(n)), slices.Sorted(slices.Values(scattered(n)))[n/2-1]; got != want {
		t.Errorf("Most = %d, want %d", got, want)
	}
}

// TestMostLeavesWhatIsHandedIn: as it was, with what stands ahead of it and behind, to which it does not look.
func TestMostLeavesWhatIsHandedIn(t *testing.T) {
	for _, match := range rows([]int{0, 3, 5}, 5) {
		all := append([]int{90, 91}, match...)
		all = append(all, 92, 93, 94, 95, 96, 97, 98, 99)
		was := slices.Clone(all)
		for range 2 {
			if got, want := ballot.Most(all[2:2+len(match)]), plainMost(match); got != want {
				t.Errorf("Most(%v) = %d, want %d", match, got, want)
			}
		}
		if !slices.Equal(all, was) {
			t.Errorf("Most(%v): what was handed in is now %v", match, all)
		}
	}
}

// TestMostKeepsNothing: each answer is of what is handed in by then.
func TestMostKeepsNothing(t *testing.T) {
	match := []int{1, 2, 3}
	for _, x := range []struct{ at, v, want int }{{0, 9, 3}, {2, 0, 2}, {1, 9, 9}, {0, 0, 0}, {2, 9, 9}} {
		match[x.at] = x.v
		if got := ballot.Most(match); got != x.want {
			t.Errorf("Most(%v) = %d, want %d", match, got, x.want)
		}
	}
}

// numbers are those that b is made of: eight bytes each, or, where small, one.
func numbers(b []byte, small bool) []int {
	var l []int
	for len(b) > 0 {
		var eight [8]byte
		n := copy(eight[:], b)
		if small {
			n = 1
			eight = [8]byte{b[0]}
		}
		b = b[n:]
		l = append(l, int(binary.LittleEndian.Uint64(eight[:])))
	}
	return l
}

func FuzzMost(f *testing.F) {
	f.Add([]byte{}, true)
	f.Add([]byte{3, 1, 2, 2, 5}, true)
	f.Add([]byte{0, 0, 9, 9}, true)
	f.Add([]byte{1, 2, 3, 4, 5, 6, 7, 128, 9, 9, 9, 9, 9, 9, 9, 9, 1}, false)
	f.Fuzz(func(t *testing.T, b []byte, small bool) {
		// plainMost asks all of them of each.
		holdMost(t, numbers(b[:min(len(b), 2000)], small))
	})
}
