package store_test

import (
	"math"
	"math/rand/v2"
	"testing"

	"diwan/api"
	"diwan/chain"
	"diwan/store"
)

func TestTrim(t *testing.T) {
	const all = "4 a=1x,3y,6z b=2u,5! c=8v d=1!"
	for _, x := range []struct {
		s    string
		mark int
		want string
	}{
		// of nothing
		{"", 0, "0"},
		{"", 1, "1"},
		{"", -1, "0"},
		{"", math.MaxInt, "9223372036854775807"},
		{"", math.MinInt, "0"},
		{"5", 4, "5"},
		{"5", 6, "6"},
		// below the Mark
		{all, 3, all},
		{all, 1, all},
		{all, 0, all},
		{all, -1, all},
		{all, math.MinInt, all},
		{"9 a=1x,3y,6z", 8, "9 a=1x,3y,6z"},
		{"9 a=1x,3y,6z", 3, "9 a=1x,3y,6z"},
		{"0 a=1x,3y", -1, "0 a=1x,3y"},
		// at it: as it is, though some could go
		{all, 4, all},
		{"9 a=1x,3y,6z", 9, "9 a=1x,3y,6z"},
		{"1 a=1x", 1, "1 a=1x"},
		{"9223372036854775807 a=1x,2y", math.MaxInt, "9223372036854775807 a=1x,2y"},
		// above it
		{all, 5, "5 a=3y,6z b=5! c=8v d=1!"},
		{all, 6, "6 a=6z b=5! c=8v d=1!"},
		{all, 7, "7 a=6z b=5! c=8v d=1!"},
		{all, 8, "8 a=6z b=5! c=8v d=1!"},
		{all, 600, "600 a=6z b=5! c=8v d=1!"},
		{all, math.MaxInt, "9223372036854775807 a=6z b=5! c=8v d=1!"},
		{"0 a=1x,3y,6z b=2u,5!", 1, "1 a=1x,3y,6z b=2u,5!"},
		{"0 a=1x,3y,6z b=2u,5!", 2, "2 a=1x,3y,6z b=2u,5!"},
		{"0 a=1x,3y,6z b=2u,5!", 3, "3 a=3y,6z b=2u,5!"},
		{"0 a=1x,3y,6z b=2u,5!", 4, "4 a=3y,6z b=2u,5!"},
		{"0 a=1x,3y,6z b=2u,5!", 5, "5 a=3y,6z b=5!"},
		{"0 a=1x,3y,6z b=2u,5!", 6, "6 a=6z b=5!"},
		// a key that is gone, and one not there yet, stay
		{"0 a=1!", 9, "9 a=1!"},
		{"0 a=1x,2!", 9, "9 a=2!"},
		{"0 a=20x", 9, "9 a=20x"},
		// positions of more than 32 bits
		{"4294967296 a=1x,2y", 3, "4294967296 a=1x,2y"},
		{"4294967296 a=1x,2y", 4294967297, "4294967297 a=2y"},
		{"0 a=1x,4294967297y", 2, "2 a=1x,4294967297y"},
		// of those that may not be, too
		{"-5 a=-4x,-2y", -2, "-2 a=-2y"},
		{"-5 a=-4x,-2y", -3, "-3 a=-4x,-2y"},
		{"-5 a=-4x,-2y", -5, "-5 a=-4x,-2y"},
		{"0 a= b=1x,2y", 2, "2 a= b=2y"},
		{"0 b=1x,2y a=1x,2y", 2, "2 b=2y a=2y"},
		{"0 a=1x,2y a=1x,3y", 2, "2 a=2y a=1x,3y"},
		{"0 =1x,2y", 2, "2 =2y"},
		{"0 a=5x,3y", 4, "4 a=3y"},
	} {
		s := storeOf(x.s)
		wantTrim(t, s, x.mark, storeOf(x.want))
		if !alike(plainTrim(s, x.mark), storeOf(x.want)) {
			t.Errorf("plainTrim(%s, %d) = %v", x.s, x.mark, plainTrim(s, x.mark))
		}
	}
}

// TestTrimOfNothing: however nothing is handed in.
func TestTrimOfNothing(t *testing.T) {
	for _, l := range [][]api.Chain{nil, {}, make([]api.Chain, 0, 3), storeOf("0 a=1x b=2y").Chains[:0], storeOf("0 a=1x b=2y").Chains[2:]} {
		for mark := range 7 {
			wantTrim(t, api.Store{Chains: l, Mark: 3}, mark, api.Store{Mark: max(3, mark)})
		}
	}
}

// TestTrimAsChains: each chain is trimmed as chain.Trim does.
func TestTrimAsChains(t *testing.T) {
	r := rand.New(rand.NewPCG(6, 16))
	for range 1000 {
		enough(t)
		s := storeByChance(r, r.IntN(20))
		for range 4 {
			mark := r.IntN(50) - 2
			want := plainCopy(s)
			if mark > s.Mark {
				want.Mark = mark
				for k, c := range want.Chains {
					want.Chains[k].L = chain.Trim(c.L, mark)
				}
			}
			wantTrim(t, s, mark, want)
			wantTrim(t, s, mark, plainTrim(s, mark))
			wantMay(t, store.Trim(s, mark), true)
		}
	}
}

// TestTrimChangesNothingFromTheMarkOn: what is told as of the mark and behind it is what was told before, and below it EOld.
func TestTrimChangesNothingFromTheMarkOn(t *testing.T) {
	r := rand.New(rand.NewPCG(7, 16))
	for range 300 {
		enough(t)
		s := storeByChance(r, r.IntN(20))
		mark := s.Mark + r.IntN(20)
		got := store.Trim(s, mark)
		for pos := mark; pos < mark+20; pos++ {
			for _, k := range names() {
				was, e := store.Get(s, k, pos)
				wantGet(t, got, k, pos, was, e)
				wantLast(t, got, k, store.Last(s, k))
			}
			was, e := store.Span(s, "", "", pos)
			wantSpan(t, got, "", "", pos, was, e)
		}
		for pos := -1; pos < mark; pos++ {
			wantGet(t, got, "a", pos, api.Read{}, api.EOld)
			wantSpan(t, got, "", "", pos, nil, api.EOld)
		}
	}
}

// TestTrimTwice: at two marks, in either order, is as at the greater one.
func TestTrimTwice(t *testing.T) {
	r := rand.New(rand.NewPCG(8, 16))
	for range 500 {
		enough(t)
		s := storeByChance(r, r.IntN(20))
		a, b := r.IntN(50), r.IntN(50)
		all := store.Trim(s, max(a, b))
		wantTrim(t, store.Trim(s, a), b, all)
		wantTrim(t, store.Trim(s, b), a, all)
	}
}

// TestTrimThenWrite: what is written behind the mark may be written ahead of trimming or behind it.
func TestTrimThenWrite(t *testing.T) {
	r := rand.New(rand.NewPCG(9, 16))
	for range 500 {
		enough(t)
		s := storeByChance(r, r.IntN(20))
		mark, l := r.IntN(50), chances(r, 4)
		pos := max(mark, s.Mark) + 1 + r.IntN(4)
		wantTrim(t, store.Write(s, pos, l), mark, store.Write(store.Trim(s, mark), pos, l))
	}
}
