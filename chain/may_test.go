package chain_test

import (
	"math"
	"strings"
	"testing"

	"diwan/api"
)

func TestMay(t *testing.T) {
	for _, x := range []struct {
		l    string
		want bool
	}{
		// of nothing
		{"", true},
		// of one
		{"1a", true},
		{"1", true},
		{"1!", true},
		{"2a", true},
		{"1000000000a", true},
		{"9223372036854775807a", true},
		{"0a", false},
		{"0", false},
		{"0!", false},
		{"-1a", false},
		{"-1!", false},
		{"-9223372036854775808", false},
		// of several
		{"1a 2b", true},
		{"1a 2b 3c", true},
		{"1a 2a 3a", true}, // the same value once more
		{"1! 2! 3!", true}, // gone once more
		{"1 2 3", true},
		{"1a 5b 7! 600c", true},
		{"599a 600b 9223372036854775807c", true},
		{"0a 1b", false},
		{"-1a 1b", false},
		{"-2a -1b", false},
		{"-1a 0b 1c", false},
		// one that stays
		{"1a 1b", false},
		{"1a 1a", false},
		{"5a 5!", false},
		{"1a 2b 2c 3d", false},
		{"1a 2b 3c 3d", false},
		{"1a 1b 2c 3d", false},
		// one that falls
		{"2a 1b", false},
		{"5a 4!", false},
		{"1a 3b 2c", false},
		{"1a 3b 2c 4d", false},
		{"3a 1b 2c", false},
		{"1a 2b 3c 0d", false},
		{"1a 2b 3c -1d", false},
		{"9223372036854775807a -9223372036854775808b", false},
		{"1a 9223372036854775807b 9223372036854775807c", false},
		{"1a 4294967298b 3c", false},
		{"1a 4294967297b", true},
		// values of MaxVal bytes and of one byte more
		{"1abcdefghijklmnop", true},
		{"1abcdefghijklmnopq", false},
		{"1abcdefghijklmnop 2abcdefghijklmnop", true},
		{"1abcdefghijklmnopq 2b", false},
		{"1a 2abcdefghijklmnopq", false},
		{"1a 2abcdefghijklmnopq 3c", false},
		// values beside Gone
		{"1!a", false},
		{"1!a 2b", false},
		{"1a 2!b", false},
		{"1a 2!b 3c", false},
		{"1a 2! 3c", true},
		{"1! 2b", true},
		{"1a 2!", true},
		{"1!abcdefghijklmnop", false},
		{"1!abcdefghijklmnopq", false},
		// several faults
		{"0!a", false},
		{"2!a 1abcdefghijklmnopq", false},
	} {
		l := chainOf(x.l)
		wantMay(t, l, x.want)
		if plainMay(l) != x.want {
			t.Errorf("plainMay(%s) = %v", x.l, !x.want)
		}
	}
}

// TestMayOfNothing: however nothing is handed in.
func TestMayOfNothing(t *testing.T) {
	for _, l := range nothings() {
		wantMay(t, l, true)
	}
}

// TestMayOfValues: of any bytes, at most MaxVal of them, and none where it is gone.
func TestMayOfValues(t *testing.T) {
	for n := range 40 {
		for _, val := range []string{strings.Repeat("x", n), strings.Repeat("\x00", n), strings.Repeat("\xff", n)} {
			for at := range 3 {
				l := chainOf("1a 2! 3b")
				l[at].Val, l[at].Gone = val, false
				wantMay(t, l, n <= api.MaxVal)
				l[at].Gone = true
				wantMay(t, l, n == 0)
			}
		}
	}
	// bytes count, not runes
	wantMay(t, []api.Version{{Pos: 1, Val: strings.Repeat("é", 8)}}, true)
	wantMay(t, []api.Version{{Pos: 1, Val: strings.Repeat("é", 9)}}, false)
	wantMay(t, []api.Version{{Pos: 1, Val: strings.Repeat("x", 1<<20)}}, false)
	wantMay(t, []api.Version{{Pos: 1, Val: strings.Repeat("x", 256)}}, false)
	wantMay(t, []api.Version{{Pos: 1, Val: strings.Repeat("x", 1<<16)}}, false)
}

// TestMayOfPositions: all short rows of them.
func TestMayOfPositions(t *testing.T) {
	for _, row := range rows(-1, 5, 5) {
		enough(t)
		l := written(row)
		wantMay(t, l, plainMay(l))
	}
	for _, row := range [][]int{{math.MinInt, 1}, {1, math.MinInt, 2}, {1, math.MaxInt, 2}, {math.MaxInt - 1, math.MaxInt, 1}, {1, 1 << 32, 1 << 31}} {
		wantMay(t, written(row), false)
	}
	for _, row := range [][]int{{1, 1 << 31, 1 << 32, 1 << 33, math.MaxInt - 1, math.MaxInt}} {
		wantMay(t, written(row), true)
	}
}

// TestMayOfMany: far more than logs have entries, with a fault at one of them.
func TestMayOfMany(t *testing.T) {
	const many = 1 << 10
	for at := -1; at < many; at++ {
		enough(t)
		l := rising(many)
		if at >= 0 {
			switch at % 4 {
			case 0:
				l[at].Pos = at
			case 1:
				l[at].Pos = at - 1
			case 2:
				l[at].Val = "abcdefghijklmnopq"
			case 3:
				l[at].Val, l[at].Gone = "a", true
			}
		}
		wantMay(t, l, at < 0)
	}
}

// TestMayOfAPart: what stands ahead of what is handed in, and behind it, is not looked at.
func TestMayOfAPart(t *testing.T) {
	l := chainOf("5a 1b 2c 3! 4d 4e 9!x 7f")
	for from := range len(l) + 1 {
		for to := from; to <= len(l); to++ {
			wantMay(t, l[from:to], plainMay(clone(l[from:to])))
		}
	}
	wantMay(t, l[1:5], true)
	wantMay(t, l[:5], false)
	wantMay(t, l[1:6], false)
}
