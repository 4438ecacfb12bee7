package store_test

import (
	"math"
	"math/rand/v2"
	"testing"

	"diwan/api"
)

func TestGet(t *testing.T) {
	const (
		free = "0 a=3x,5y,6!,9,10z b=4u b!=7abcdefghijklmnop c=1!,8w"
		late = "6 a=3x,5y,6!,9,10z b=4u c=1!,8w"
	)
	for _, x := range []struct {
		s    string
		key  string
		pos  int
		want string // nothing: never written
	}{
		// of a key that there is none of
		{"", "a", 0, ""},
		{"", "a", 1, ""},
		{"", "", 0, ""},
		{"", "a", math.MaxInt, ""},
		{free, "A", 99, ""},
		{free, "aa", 99, ""},
		{free, "b\"", 99, ""},
		{free, "d", 99, ""},
		{free, "", 99, ""},
		{free, "!", 0, ""},
		{free, "ab", math.MaxInt, ""},
		{late, "aa", 6, ""},
		{late, "d", 7, ""},
		// below the first one's Pos
		{free, "a", 0, ""},
		{free, "a", 2, ""},
		{free, "b", 3, ""},
		{free, "b!", 6, ""},
		{free, "c", 0, ""},
		{"3 a=5x", "a", 4, ""},
		{"3 a=5x", "a", 3, ""},
		// at each one's
		{free, "a", 3, "3x"},
		{free, "a", 5, "5y"},
		{free, "a", 6, "6!"},
		{free, "a", 9, "9"}, // nothing as a value is there all the same
		{free, "a", 10, "10z"},
		{free, "b", 4, "4u"},
		{free, "b!", 7, "7abcdefghijklmnop"},
		{free, "c", 1, "1!"},
		{free, "c", 8, "8w"},
		// between two
		{free, "a", 4, "3x"},
		{free, "a", 7, "6!"},
		{free, "a", 8, "6!"},
		{free, "c", 2, "1!"},
		{free, "c", 7, "1!"},
		// behind the last one
		{free, "a", 11, "10z"},
		{free, "a", math.MaxInt, "10z"},
		{free, "b", 5, "4u"},
		{free, "b", 1 << 40, "4u"},
		{free, "c", 9, "8w"},
		{"0 a=1x,2!", "a", 3, "2!"},
		{"0 a=1x,2!", "a", math.MaxInt, "2!"},
		// at the Mark and behind it
		{late, "a", 6, "6!"},
		{late, "a", 7, "6!"},
		{late, "a", 9, "9"},
		{late, "b", 6, "4u"},
		{late, "b", 7, "4u"},
		{late, "c", 6, "1!"},
		{late, "c", 8, "8w"},
		{"9 a=9x", "a", 9, "9x"},
		{"9223372036854775807 a=9x", "a", math.MaxInt, "9x"},
		// positions of more than 32 bits
		{"0 a=1x,4294967297y", "a", 4294967296, "1x"},
		{"0 a=1x,4294967297y", "a", 4294967297, "4294967297y"},
		{"4294967296 a=1x", "a", 4294967296, "1x"},
		// of those that may not be, too
		{"0 b=2y a=1x", "a", 5, "1x"},
		{"0 b=2y a=1x", "b", 5, "2y"},
		{"0 c=3z b=2y a=1x", "b", 5, "2y"},
		{"0 a=1x a=2y", "a", 5, "1x"},
		{"0 a= b=1x", "a", 5, ""},
		{"0 a= b=1x", "b", 5, "1x"},
		{"0 =1x", "", 5, "1x"},
		{"0 abcdefghi=1x", "abcdefghi", 5, "1x"},
		{"0 a=5x,3y", "a", 4, "3y"},
		{"0 a=1!x", "a", 1, "1!x"},
		{"-3 a=-2x", "a", -2, "-2x"},
		{"-3 a=-2x", "a", -3, ""},
	} {
		r := api.Read{Key: x.key}
		if x.want != "" {
			v := versionOf(x.want)
			r.Version, r.Val, r.There = v.Pos, v.Val, !v.Gone
		}
		wantGet(t, storeOf(x.s), x.key, x.pos, r, api.OK)
	}
}

// TestGetGone: what is gone has its Version, and is not There.
func TestGetGone(t *testing.T) {
	s := storeOf("0 a=3x,6! b=2!,5y")
	wantGet(t, s, "a", 5, api.Read{Key: "a", Version: 3, Val: "x", There: true}, api.OK)
	wantGet(t, s, "a", 6, api.Read{Key: "a", Version: 6}, api.OK)
	wantGet(t, s, "a", 99, api.Read{Key: "a", Version: 6}, api.OK)
	wantGet(t, s, "b", 1, api.Read{Key: "b"}, api.OK)
	wantGet(t, s, "b", 4, api.Read{Key: "b", Version: 2}, api.OK)
	wantGet(t, s, "b", 5, api.Read{Key: "b", Version: 5, Val: "y", There: true}, api.OK)
}

// TestGetOld: below the Mark nothing is told but EOld, not the key either, whatever the store has.
func TestGetOld(t *testing.T) {
	for _, x := range []struct {
		s   string
		key string
		pos int
	}{
		{"", "a", -1},
		{"", "", math.MinInt},
		{"0 a=1x", "a", -1},
		{"1", "a", 0},
		{"6 a=3x,6!,9y b=4u", "a", 5},
		{"6 a=3x,6!,9y b=4u", "a", 3},
		{"6 a=3x,6!,9y b=4u", "a", 0},
		{"6 a=3x,6!,9y b=4u", "a", -1},
		{"6 a=3x,6!,9y b=4u", "b", 5},
		{"6 a=3x,6!,9y b=4u", "c", 5},
		{"6 a=3x,6!,9y b=4u", "", 5},
		{"6 a=9x", "a", 5},
		{"9223372036854775807 a=1x", "a", math.MaxInt - 1},
		{"4294967296 a=1x", "a", 1},
		{"-3 a=-5x", "a", -4},
	} {
		wantGet(t, storeOf(x.s), x.key, x.pos, api.Read{}, api.EOld)
	}
}

// TestGetAsOfEach: at each position from below the Mark to behind all that was written.
func TestGetAsOfEach(t *testing.T) {
	s := storeOf("0 !=2u a=3x,5y,6!,9 a!=4v aa=1!,7w b=8q c=9! ~=5r ~~~~~~~~=10s")
	for mark := range 13 {
		s.Mark = mark
		for pos := -2; pos <= 13; pos++ {
			enough(t)
			wantReads(t, s, names(), pos)
		}
	}
}

func TestLast(t *testing.T) {
	const all = "0 a=3x,5y,6!,9,10z b=4u b!=7abc,600! c=1!"
	for _, x := range []struct {
		s, key string
		want   int
	}{
		// of a key that there is none of
		{"", "a", 0},
		{"", "", 0},
		{"7", "a", 0},
		{all, "", 0},
		{all, "A", 0},
		{all, "aa", 0},
		{all, "b\"", 0},
		{all, "d", 0},
		{"9 a=3x", "b", 0},
		// of one version
		{all, "b", 4},
		{all, "c", 1},
		{"0 a=1x", "a", 1},
		{"0 a=9223372036854775807x", "a", math.MaxInt},
		// of several
		{all, "a", 10},
		{all, "b!", 600},
		{"0 a=1x,2y", "a", 2},
		{"0 a=1x,4294967296!", "a", 1 << 32},
		// whatever the Mark is
		{"9 a=3x", "a", 3},
		{"9 a=3x,7y", "a", 7},
		{"9 a=3x,11y", "a", 11},
		{"-1 a=3x", "a", 3},
		// of those that may not be, too
		{"0 b=2y a=1x", "a", 1},
		{"0 b=2y a=1x", "b", 2},
		{"0 a=3x a=5y", "a", 3},
		{"0 a=", "a", 0},
		{"0 a=5x,3y", "a", 3},
		{"0 a=-3x", "a", -3},
		{"0 =4x", "", 4},
	} {
		wantLast(t, storeOf(x.s), x.key, x.want)
	}
}

// TestReadsByChance: stores that may be, as of any position.
func TestReadsByChance(t *testing.T) {
	r := rand.New(rand.NewPCG(2, 16))
	for range 600 {
		enough(t)
		s := storeByChance(r, r.IntN(20))
		wantMay(t, s, true)
		for range 3 {
			wantReads(t, s, names(), r.IntN(50)-3)
		}
		wantReads(t, s, names(), s.Mark)
		wantReads(t, s, names(), s.Mark-1)
		wantReads(t, s, names(), int(r.Uint64()))
	}
}

// TestReadsOfMany: far more keys than one transaction writes.
func TestReadsOfMany(t *testing.T) {
	const all = 3000
	s := many(all)
	for k, c := range s.Chains {
		wantGet(t, s, c.Key, k+1, api.Read{Key: c.Key, Version: k + 1, Val: "v", There: true}, api.OK)
		wantGet(t, s, c.Key, k, api.Read{Key: c.Key}, api.OK)
		wantLast(t, s, c.Key, k+1)
	}
	for _, pos := range []int{0, 1, 2, all - 1, all, all + 1} {
		l, e := plainSpanOfMany(s, pos)
		wantSpan(t, s, "", "", pos, l, e)
	}
}

// plainSpanOfMany tells what many's keys were at pos: the first pos of them are there.
func plainSpanOfMany(s api.Store, pos int) ([]api.Read, api.Errno) {
	var l []api.Read
	for _, c := range s.Chains[:min(pos, len(s.Chains))] {
		l = append(l, api.Read{Key: c.Key, Version: c.L[0].Pos, Val: "v", There: true})
	}
	return l, api.OK
}
