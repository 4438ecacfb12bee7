package chain_test

import (
	"math"
	"math/rand/v2"
	"testing"

	"diwan/api"
	"diwan/chain"
)

func TestTrim(t *testing.T) {
	const long = "3a 5b 6! 9 10c 600d"
	for _, x := range []struct {
		l    string
		mark int
		want string
	}{
		// of nothing
		{"", 0, ""},
		{"", 1, ""},
		{"", -1, ""},
		{"", math.MinInt, ""},
		{"", math.MaxInt, ""},
		// of one, which stays
		{"5a", 4, "5a"},
		{"5a", 5, "5a"},
		{"5a", 6, "5a"},
		{"5a", 0, "5a"},
		{"5a", -1, "5a"},
		{"5a", math.MinInt, "5a"},
		{"5a", math.MaxInt, "5a"},
		{"5!", 9, "5!"},
		// below the first one's
		{long, 2, long},
		{long, 0, long},
		{long, -7, long},
		{long, math.MinInt, long},
		// at each one's own
		{long, 3, long},
		{long, 5, "5b 6! 9 10c 600d"},
		{long, 6, "6! 9 10c 600d"}, // one that is gone stays, too
		{long, 9, "9 10c 600d"},
		{long, 10, "10c 600d"},
		{long, 600, "600d"},
		// between two
		{long, 4, long},
		{long, 7, "6! 9 10c 600d"},
		{long, 8, "6! 9 10c 600d"},
		{long, 11, "10c 600d"},
		{long, 599, "10c 600d"},
		// behind the last one, which stays
		{long, 601, "600d"},
		{long, 1 << 40, "600d"},
		{long, math.MaxInt, "600d"},
		{"1a 2!", 2, "2!"},
		{"1a 2!", 9, "2!"},
		{"1! 2!", 9, "2!"},
		// one goes just where another one behind it is not above the mark
		{"1a 2b", 0, "1a 2b"},
		{"1a 2b", 1, "1a 2b"},
		{"1a 2b", 2, "2b"},
		{"1a 9b", 8, "1a 9b"},
		{"1a 9b", 9, "9b"},
		{"1a 2b 9c", 8, "2b 9c"},
		{"1a 8b 9c", 7, "1a 8b 9c"},
		// the same value once more
		{"1a 2a 3a", 2, "2a 3a"},
		// positions of more than 32 bits
		{"1a 4294967297b", 2, "1a 4294967297b"},
		{"1a 4294967297b", 4294967297, "4294967297b"},
		{"1a 4294967297b 9223372036854775807c", math.MaxInt - 1, "4294967297b 9223372036854775807c"},
		{"1a 4294967297b 9223372036854775807c", math.MaxInt, "9223372036854775807c"},
		// of those that may not be, too
		{"0a 1b", 0, "0a 1b"},
		{"-5a -3b 2c", -4, "-5a -3b 2c"},
		{"-5a -3b 2c", -3, "-3b 2c"},
		{"3a 3b 3c", 2, "3a 3b 3c"},
		{"3a 3b 3c", 3, "3c"},
		{"5a 3b", 2, "5a 3b"},
		{"5a 3b", 3, "3b"},
		{"5a 3b", 4, "3b"},
		{"9a 1b 8c 2d 7e", 0, "9a 1b 8c 2d 7e"},
		{"9a 1b 8c 2d 7e", 1, "1b 8c 2d 7e"},
		{"9a 1b 8c 2d 7e", 2, "2d 7e"},
		{"9a 1b 8c 2d 7e", 6, "2d 7e"},
		{"9a 1b 8c 2d 7e", 7, "7e"},
		{"1!x 2abcdefghijklmnopq 3c", 2, "2abcdefghijklmnopq 3c"},
		{"-9223372036854775808a -9223372036854775808b 1c", math.MinInt, "-9223372036854775808b 1c"},
	} {
		l := chainOf(x.l)
		wantTrim(t, l, x.mark, chainOf(x.want))
		if !same(plainTrim(l, x.mark), chainOf(x.want)) {
			t.Errorf("plainTrim(%s, %d) = %v", x.l, x.mark, plainTrim(l, x.mark))
		}
	}
}

// TestTrimOfNothing: however nothing is handed in.
func TestTrimOfNothing(t *testing.T) {
	for _, l := range nothings() {
		for _, mark := range []int{math.MinInt, -1, 0, 1, 2, math.MaxInt} {
			wantTrim(t, l, mark, nil)
		}
	}
}

// TestTrimOfAll: all short rows of positions, in any order, at each mark.
func TestTrimOfAll(t *testing.T) {
	for _, row := range rows(-1, 4, 5) {
		enough(t)
		l := written(row)
		for mark := -2; mark <= 5; mark++ {
			wantTrim(t, l, mark, plainTrim(l, mark))
		}
	}
}

// seenFrom holds what is told of trimmed against what is told of l: from mark on the same, and below it the same or nothing.
func seenFrom(t *testing.T, l []api.Version, mark, end int) {
	t.Helper()
	trimmed := chain.Trim(l, mark)
	for pos := mark; pos <= end; pos++ {
		v, ok := chain.At(l, pos)
		wantAt(t, trimmed, pos, v, ok)
	}
	v, ok := chain.At(l, math.MaxInt)
	wantAt(t, trimmed, math.MaxInt, v, ok)
}

// TestTrimChangesNothingFromTheMarkOn: of chains that may be, and of versions in any order.
func TestTrimChangesNothingFromTheMarkOn(t *testing.T) {
	for _, row := range rows(-1, 3, 4) {
		enough(t)
		for mark := -2; mark <= 4; mark++ {
			seenFrom(t, written(row), mark, 5)
		}
	}
	r := rand.New(rand.NewPCG(6, 15))
	for k := range 2000 {
		enough(t)
		l := chances(r, 20)
		if k%4 == 0 {
			l = wild(r, 20)
		}
		end := plainLast(l) + 3
		seenFrom(t, l, r.IntN(end+3)-3, end)
	}
}

// TestTrimKeepsNoMore: but for the first one of those that stay, each is above the mark, and what is told below the mark was told so before, or is nothing.
func TestTrimKeepsNoMore(t *testing.T) {
	r := rand.New(rand.NewPCG(7, 15))
	for range 2000 {
		enough(t)
		l := chances(r, 20)
		mark := r.IntN(plainLast(l)+6) - 2
		got := chain.Trim(l, mark)
		if !chain.May(got) || chain.Last(got) != chain.Last(l) || (len(got) == 0) != (len(l) == 0) {
			t.Errorf("Trim(%v, %d) = %v", l, mark, got)
		}
		if len(got) > 1 && got[1].Pos <= mark {
			t.Errorf("Trim(%v, %d) = %v, which keeps one too many", l, mark, got)
		}
		for pos := -1; pos < mark; pos++ {
			was, ok := chain.At(l, pos)
			if len(got) == 0 || got[0].Pos > pos {
				was, ok = api.Version{}, false
			}
			wantAt(t, got, pos, was, ok)
		}
	}
}

// TestTrimTwice: at two marks, in either order, is as at the greater one.
func TestTrimTwice(t *testing.T) {
	r := rand.New(rand.NewPCG(8, 15))
	for range 2000 {
		enough(t)
		l := chances(r, 20)
		a, b := r.IntN(plainLast(l)+4)-1, r.IntN(plainLast(l)+4)-1
		all := chain.Trim(l, max(a, b))
		wantTrim(t, chain.Trim(l, a), b, all)
		wantTrim(t, chain.Trim(l, b), a, all)
	}
}

// TestTrimThenAdd: what is written behind the mark may be written ahead of trimming or behind it.
func TestTrimThenAdd(t *testing.T) {
	r := rand.New(rand.NewPCG(9, 15))
	for range 2000 {
		enough(t)
		l := chances(r, 20)
		mark := r.IntN(plainLast(l) + 4)
		v := chance(r, mark+1+r.IntN(4))
		wantTrim(t, chain.Add(l, v), mark, chain.Add(chain.Trim(l, mark), v))
	}
}

// TestTrimOfMany: far more than logs have entries.
func TestTrimOfMany(t *testing.T) {
	const many = 1 << 16
	l := rising(many)
	for _, mark := range []int{1, 2, 3, many / 2, many - 1, many} {
		wantTrim(t, l, mark, rising(many)[mark-1:])
	}
	wantTrim(t, l, 0, rising(many))
	wantTrim(t, l, many+1, rising(many)[many-1:])
}

// TestTrimOfAPart: what stands ahead of what is handed in, and behind it, is not looked at.
func TestTrimOfAPart(t *testing.T) {
	l := chainOf("1a 3b 4! 6c 8d")
	for from := range len(l) + 1 {
		for to := from; to <= len(l); to++ {
			for mark := range 10 {
				wantTrim(t, l[from:to], mark, plainTrim(clone(l[from:to]), mark))
			}
		}
	}
}
