package chain_test

import (
	"math"
	"math/rand/v2"
	"testing"

	"diwan/api"
	"diwan/chain"
)

// nothings are lists of no versions, however they come to be.
func nothings() [][]api.Version {
	return [][]api.Version{nil, {}, make([]api.Version, 0, 3), chainOf("1a 2b")[:0], chainOf("1a 2b")[2:], chainOf("1a 2b")[1:1]}
}

// rising makes many versions, the k-th at position k.
func rising(many int) []api.Version {
	row := make([]int, many)
	for k := range row {
		row[k] = k + 1
	}
	return written(row)
}

func TestAt(t *testing.T) {
	const long = "3a 5b 6! 9 10c 600abcdefghijklmnop"
	for _, x := range []struct {
		l    string
		pos  int
		want string // nothing: no
	}{
		// of nothing
		{"", 0, ""},
		{"", 1, ""},
		{"", -1, ""},
		{"", math.MaxInt, ""},
		{"", math.MinInt, ""},
		// of one
		{"1a", 0, ""},
		{"1a", -1, ""},
		{"1a", math.MinInt, ""},
		{"1a", 1, "1a"},
		{"1a", 2, "1a"},
		{"1a", math.MaxInt, "1a"},
		{"7!", 6, ""},
		{"7!", 7, "7!"},
		{"7!", 8, "7!"},
		// below the first one's
		{long, 2, ""},
		{long, 1, ""},
		{long, 0, ""},
		{long, -3, ""},
		{long, math.MinInt, ""},
		// at each one's own
		{long, 3, "3a"},
		{long, 5, "5b"},
		{long, 6, "6!"},
		{long, 9, "9"},
		{long, 10, "10c"},
		{long, 600, "600abcdefghijklmnop"},
		// between two
		{long, 4, "3a"},
		{long, 7, "6!"}, // a Gone one is told as any other
		{long, 8, "6!"},
		{long, 11, "10c"},
		{long, 599, "10c"},
		// behind the last one
		{long, 601, "600abcdefghijklmnop"},
		{long, 1 << 40, "600abcdefghijklmnop"},
		{long, math.MaxInt, "600abcdefghijklmnop"},
		{"1a 2!", 3, "2!"},
		{"1a 2!", math.MaxInt, "2!"},
		{"1! 2b", 1, "1!"},
		// the value may be the same
		{"1a 3a 5a", 4, "3a"},
		// positions of more than 32 bits
		{"1a 4294967297b", 2, "1a"},
		{"1a 4294967297b", 4294967296, "1a"},
		{"1a 4294967297b", 4294967297, "4294967297b"},
		{"4294967297b", 1, ""},
		// of those that may not be: the last one whose Pos is not above
		{"0a", 0, "0a"},
		{"0a", -1, ""},
		{"-5a -3b", -4, "-5a"},
		{"-5a -3b", -6, ""},
		{"-5a -3b", 0, "-3b"},
		{"3a 3b", 3, "3b"},
		{"3a 3b", 2, ""},
		{"5a 3b", 3, "3b"},
		{"5a 3b", 4, "3b"},
		{"5a 3b", 5, "3b"},
		{"5a 3b", 2, ""},
		{"1a 9b 3c 7d", 2, "1a"},
		{"1a 9b 3c 7d", 3, "3c"},
		{"1a 9b 3c 7d", 6, "3c"},
		{"1a 9b 3c 7d", 9, "7d"},
		{"1!abc 2abcdefghijklmnopq", 1, "1!abc"},
		{"1!abc 2abcdefghijklmnopq", 2, "2abcdefghijklmnopq"},
		{"-9223372036854775808a 9223372036854775807b", math.MinInt, "-9223372036854775808a"},
		{"-9223372036854775808a 9223372036854775807b", math.MaxInt - 1, "-9223372036854775808a"},
		{"-9223372036854775808a 9223372036854775807b", math.MaxInt, "9223372036854775807b"},
	} {
		l := chainOf(x.l)
		var v api.Version
		if x.want != "" {
			v = versionOf(x.want)
		}
		wantAt(t, l, x.pos, v, x.want != "")
		if got, ok := plainAt(l, x.pos); got != v || ok != (x.want != "") {
			t.Errorf("plainAt(%s, %d) = %v, %v", x.l, x.pos, got, ok)
		}
	}
}

// TestAtOfNothing: however nothing is handed in.
func TestAtOfNothing(t *testing.T) {
	for _, l := range nothings() {
		for _, pos := range []int{math.MinInt, -1, 0, 1, 2, math.MaxInt} {
			wantAt(t, l, pos, api.Version{}, false)
		}
	}
}

// TestAtOfAll: all short rows of positions, in any order, as of each position.
func TestAtOfAll(t *testing.T) {
	for _, row := range rows(-1, 4, 5) {
		enough(t)
		l := written(row)
		for pos := -2; pos <= 5; pos++ {
			v, ok := plainAt(l, pos)
			wantAt(t, l, pos, v, ok)
		}
	}
}

// TestAtOfSets: all chains that may be of positions from 1 to 10, as of each position.
func TestAtOfSets(t *testing.T) {
	for set := range 1 << 10 {
		enough(t)
		var row []int
		for k := range 10 {
			if set>>k&1 == 1 {
				row = append(row, k+1)
			}
		}
		l := written(row)
		for pos := -1; pos <= 12; pos++ {
			wantPlain(t, l, pos, api.Version{Pos: pos, Val: "new"})
		}
	}
}

// TestAtOfMany: far more than logs have entries, each told at its own position.
func TestAtOfMany(t *testing.T) {
	const many = 1 << 16
	l := rising(many)
	for k := 0; k < many; k += 97 {
		enough(t)
		wantAt(t, l, k+1, l[k], true)
	}
	wantAt(t, l, 0, api.Version{}, false)
	wantAt(t, l, many, l[many-1], true)
	wantAt(t, l, many+1, l[many-1], true)
}

// TestAtOfAPart: what stands ahead of what is handed in, and behind it, is not looked at.
func TestAtOfAPart(t *testing.T) {
	l := chainOf("1a 3b 4! 6c 8d")
	for from := range len(l) + 1 {
		for to := from; to <= len(l); to++ {
			for pos := range 10 {
				v, ok := plainAt(clone(l[from:to]), pos)
				wantAt(t, l[from:to], pos, v, ok)
			}
			wantLast(t, l[from:to], plainLast(clone(l[from:to])))
		}
	}
}

func TestLast(t *testing.T) {
	for _, x := range []struct {
		l    string
		want int
	}{
		{"", 0},
		{"1a", 1},
		{"1!", 1},
		{"7", 7},
		{"1a 2b", 2},
		{"1a 2!", 2},
		{"3a 5b 6! 9 10c 600d", 600},
		{"1a 9223372036854775807b", math.MaxInt},
		{"1a 4294967296b", 1 << 32},
		// of those that may not be, too: that of the last one
		{"0a", 0},
		{"-3a", -3},
		{"1a 1b", 1},
		{"5a 3b", 3},
		{"9a 1b 5c", 5},
		{"5a 0b", 0},
		{"5a -9223372036854775808b", math.MinInt},
		{"2!x 1abcdefghijklmnopq", 1},
	} {
		wantLast(t, chainOf(x.l), x.want)
		if got := plainLast(chainOf(x.l)); got != x.want {
			t.Errorf("plainLast(%s) = %d", x.l, got)
		}
	}
	for _, l := range nothings() {
		wantLast(t, l, 0)
	}
	for _, row := range rows(-1, 4, 5) {
		enough(t)
		wantLast(t, written(row), plainLast(written(row)))
	}
	wantLast(t, rising(1<<16), 1<<16)
}

// TestAtOfLast: what is told as of Last, or of any position behind it, is the last one.
func TestAtOfLast(t *testing.T) {
	r := rand.New(rand.NewPCG(1, 15))
	for range 2000 {
		enough(t)
		l := chances(r, 30)
		if len(l) == 0 {
			continue
		}
		for _, more := range []int{0, 1, 2, 100, 1 << 40} {
			wantAt(t, l, chain.Last(l)+more, l[len(l)-1], true)
		}
	}
}

// TestByChance: chains that may be, and versions in any order.
func TestByChance(t *testing.T) {
	r := rand.New(rand.NewPCG(2, 15))
	for k := range 20000 {
		enough(t)
		l := chances(r, 30)
		if k%2 == 0 {
			l = wild(r, 30)
		}
		pos := r.IntN(plainLast(l)+8) - 3
		if k%100 == 0 {
			pos = int(r.Uint64())
		}
		wantPlain(t, l, pos, chance(r, pos+r.IntN(5)-2))
	}
}

// FuzzChain reads of each two bytes where a version is and what it was.
func FuzzChain(f *testing.F) {
	for _, s := range []string{"", "1a", "1a2b3!", "0a", "3a2b", "2!2!", "1z3!7A9?", "9a1b5c5d"} {
		f.Add(s, 0, 1)
		f.Add(s, 2, 2)
		f.Add(s, 9, -1)
	}
	f.Fuzz(func(t *testing.T, s string, pos, add int) {
		var l []api.Version
		for k := 0; k+1 < min(len(s), 400); k += 2 {
			v := api.Version{Pos: int(s[k]) - '0', Gone: s[k+1] == '!'}
			if !v.Gone || s[k]%9 == 8 {
				v.Val = "abcdefghijklmnopqr"[:min(18, s[k+1]%24)]
			}
			l = append(l, v)
		}
		wantPlain(t, l, pos, api.Version{Pos: add, Val: "new"})
		wantPlain(t, l, pos%100, api.Version{Pos: plainLast(l) + add%3, Gone: true})
	})
}
