package store_test

import (
	"math"
	"slices"
	"strings"
	"testing"

	"diwan/api"
	"diwan/store"
)

func TestSpan(t *testing.T) {
	const all = "0 a=3x,5! aa=2y b=4z,8w c=6!,7v d=1"
	for _, x := range []struct {
		s, from, to string
		pos         int
		want        string
	}{
		// of nothing
		{"", "", "", 0, ""},
		{"", "a", "z", 9, ""},
		{"5", "", "", 5, ""},
		// of all keys
		{all, "", "", 4, "a=3x aa=2y b=4z d=1"},
		{all, "", "", 99, "aa=2y b=8w c=7v d=1"},
		{all, "", "", math.MaxInt, "aa=2y b=8w c=7v d=1"},
		{all, "!", "", 4, "a=3x aa=2y b=4z d=1"},
		{all, "", "~", 4, "a=3x aa=2y b=4z d=1"},
		{all, "a", "d!", 4, "a=3x aa=2y b=4z d=1"},
		// from one on, itself too
		{all, "a", "", 4, "a=3x aa=2y b=4z d=1"},
		{all, "a!", "", 4, "aa=2y b=4z d=1"},
		{all, "aa", "", 4, "aa=2y b=4z d=1"},
		{all, "b", "", 4, "b=4z d=1"},
		{all, "c", "", 4, "d=1"},
		{all, "d", "", 4, "d=1"},
		{all, "d!", "", 4, ""},
		{all, "z", "", 4, ""},
		// up to one, not itself
		{all, "", "!", 4, ""},
		{all, "", "a", 4, ""},
		{all, "", "a!", 4, "a=3x"},
		{all, "", "aa", 4, "a=3x"},
		{all, "", "b", 4, "a=3x aa=2y"},
		{all, "", "c", 4, "a=3x aa=2y b=4z"},
		{all, "", "d", 4, "a=3x aa=2y b=4z"},
		{all, "", "e", 4, "a=3x aa=2y b=4z d=1"},
		// between two
		{all, "a", "b", 4, "a=3x aa=2y"},
		{all, "aa", "b", 4, "aa=2y"},
		{all, "aa", "c", 4, "aa=2y b=4z"},
		{all, "ab", "cc", 7, "b=4z c=7v"},
		{all, "b", "b!", 4, "b=4z"},
		{all, "b!", "c", 4, ""},
		{all, "a", "a", 4, ""},
		// from behind to
		{all, "b", "a", 4, ""},
		{all, "d", "a", 4, ""},
		{all, "c", "b", 9, ""},
		{all, "z", "!", 4, ""},
		// those that are gone or not there yet are left out
		{all, "", "", 0, ""},
		{all, "", "", 1, "d=1"},
		{all, "", "", 2, "aa=2y d=1"},
		{all, "", "", 3, "a=3x aa=2y d=1"},
		{all, "", "", 5, "aa=2y b=4z d=1"},
		{all, "", "", 6, "aa=2y b=4z d=1"},
		{all, "", "", 7, "aa=2y b=4z c=7v d=1"},
		{all, "", "", 8, "aa=2y b=8w c=7v d=1"},
		{all, "a", "aa", 5, ""},
		{all, "c", "d", 6, ""},
		{"0 a=1!", "", "", 9, ""},
		{"0 a=1! b=2!", "", "", 9, ""},
		{"0 a=5x", "", "", 4, ""},
		// at the Mark and behind it
		{"4 a=3x,5! b=4z c=9y", "", "", 4, "a=3x b=4z"},
		{"4 a=3x,5! b=4z c=9y", "", "", 5, "b=4z"},
		{"4 a=3x,5! b=4z c=9y", "", "", 9, "b=4z c=9y"},
		// bounds that may not be keys
		{all, "\x00", "", 4, "a=3x aa=2y b=4z d=1"},
		{all, "", "\xff", 4, "a=3x aa=2y b=4z d=1"},
		{all, "\xff", "", 4, ""},
		{all, "aaaaaaaaaaaaaaaa", "c", 4, "b=4z"},
		{all, "", "aaaaaaaaaaaaaaaa", 4, "a=3x aa=2y"},
		{all, "a", "a\x00", 4, "a=3x"},
		// of those that may not be, too
		{"0 a= b=1x", "", "", 4, "b=1x"},
		{"0 =1x a=2y", "", "", 4, "=1x a=2y"},
		{"0 =1x a=2y", "a", "", 4, "a=2y"},
		{"-3 a=-2x", "", "", -2, "a=-2x"},
	} {
		wantSpan(t, storeOf(x.s), x.from, x.to, x.pos, readsOf(x.want), api.OK)
	}
}

// TestSpanOld: below the Mark nothing is told but EOld, where nothing is within, too.
func TestSpanOld(t *testing.T) {
	for _, x := range []struct {
		s, from, to string
		pos         int
	}{
		{"", "", "", -1},
		{"", "", "", math.MinInt},
		{"1", "", "", 0},
		{"0 a=1x", "", "", -1},
		{"6 a=3x b=9y", "", "", 5},
		{"6 a=3x b=9y", "a", "", 5},
		{"6 a=3x b=9y", "a", "b", 3},
		{"6 a=3x b=9y", "z", "a", 5},
		{"6 a=3x b=9y", "", "", -9},
		{"9223372036854775807 a=1x", "", "", math.MaxInt - 1},
		{"4294967296 a=1x", "", "", 1},
		{"-3 a=-5x", "", "", -4},
	} {
		wantSpan(t, storeOf(x.s), x.from, x.to, x.pos, nil, api.EOld)
	}
}

// TestSpanRises: what is told rises, is There, and is what Get tells of each key alone.
func TestSpanRises(t *testing.T) {
	s := storeOf("0 !=2u a=3x,5y,6!,9 a!=4v aa=1!,7w b=8q c=9! ~=5r ~~~~~~~~=10s")
	for pos := range 13 {
		for _, from := range names() {
			for _, to := range names() {
				l, _ := store.Span(s, from, to, pos)
				if !slices.IsSortedFunc(l, func(a, b api.Read) int { return strings.Compare(a.Key, b.Key) }) {
					t.Errorf("Span(%q, %q, %d) = %v, which does not rise", from, to, pos, l)
				}
				for _, k := range names() {
					r, _ := store.Get(s, k, pos)
					in := r.There && k >= from && (to == "" || k < to)
					if slices.Contains(l, r) != in {
						t.Errorf("Span(%q, %q, %d) = %v, and %q is %v", from, to, pos, l, k, r)
					}
				}
			}
		}
	}
}

// TestSpanInTwo: up to a key and from it on make all.
func TestSpanInTwo(t *testing.T) {
	s := storeOf("2 !=2u a=3x,5y,6!,9 a!=4v aa=1!,7w b=8q c=9! ~=5r ~~~~~~~~=10s")
	for pos := 2; pos < 13; pos++ {
		all, _ := store.Span(s, "", "", pos)
		for _, k := range names()[1:] {
			ahead, _ := store.Span(s, "", k, pos)
			behind, _ := store.Span(s, k, "", pos)
			if !slices.Equal(slices.Concat(ahead, behind), all) {
				t.Errorf("as of %d, at %q: %v and %v are not %v", pos, k, ahead, behind, all)
			}
		}
	}
}
