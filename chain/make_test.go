package chain_test

import (
	"math/rand/v2"
	"reflect"
	"strconv"
	"strings"
	"testing"

	"diwan/api"
	"diwan/chain"
)

// versionOf reads a version: "3ab" was ab from position 3 on, "3!" was gone from there on, "3!ab" is gone and has a value, too.
func versionOf(s string) api.Version {
	n := 0
	for n < len(s) && (s[n] == '-' || s[n] >= '0' && s[n] <= '9') {
		n++
	}
	pos, err := strconv.Atoi(s[:n])
	if err != nil {
		panic(err)
	}
	val, gone := strings.CutPrefix(s[n:], "!")
	return api.Version{Pos: pos, Val: val, Gone: gone}
}

// chainOf reads versions, with a space between one and the next.
func chainOf(s string) []api.Version {
	var l []api.Version
	for _, f := range strings.Fields(s) {
		l = append(l, versionOf(f))
	}
	return l
}

// clone is a list of its own; of no items it is nil.
func clone[T any](l []T) []T {
	return append([]T(nil), l...)
}

// same holds versions against each other, a list that is nil and an empty one for one.
func same(a, b []api.Version) bool {
	return reflect.DeepEqual(clone(a), clone(b))
}

// plainAt is P15.1's word on At: of all whose Pos is not above pos the one that stands behind all others.
func plainAt(l []api.Version, pos int) (api.Version, bool) {
	var last api.Version
	any := false
	for _, v := range l {
		if !(v.Pos > pos) {
			last, any = v, true
		}
	}
	return last, any
}

// plainLast is P15.1's word on Last.
func plainLast(l []api.Version) int {
	pos := 0
	for _, v := range l {
		pos = v.Pos
	}
	return pos
}

// plainAdd is P15.1's word on Add.
func plainAdd(l []api.Version, v api.Version) []api.Version {
	all := clone(l)
	if v.Pos > plainLast(l) {
		all = append(all, v)
	}
	return all
}

// plainTrim is P15.1's word on Trim: each is held against all that stand behind it.
func plainTrim(l []api.Version, mark int) []api.Version {
	var all []api.Version
	for k, v := range l {
		stays := true
		for _, other := range l[k+1:] {
			stays = stays && other.Pos > mark
		}
		if stays {
			all = append(all, v)
		}
	}
	return all
}

// plainMay is P15.1's word on May: each is held against all that stand behind it.
func plainMay(l []api.Version) bool {
	for k, v := range l {
		for _, other := range l[k+1:] {
			if other.Pos <= v.Pos {
				return false
			}
		}
		if v.Pos < 1 || len(v.Val) > 16 || v.Gone && v.Val != "" {
			return false
		}
	}
	return true
}

func wantAt(t *testing.T, l []api.Version, pos int, v api.Version, ok bool) {
	t.Helper()
	if got, is := chain.At(l, pos); got != v || is != ok {
		t.Errorf("At(%.300v, %d) = %v, %v, want %v, %v", l, pos, got, is, v, ok)
	}
}

func wantLast(t *testing.T, l []api.Version, pos int) {
	t.Helper()
	if got := chain.Last(l); got != pos {
		t.Errorf("Last(%.300v) = %d, want %d", l, got, pos)
	}
}

func wantAdd(t *testing.T, l []api.Version, v api.Version, all []api.Version) {
	t.Helper()
	if got := chain.Add(l, v); !same(got, all) {
		t.Errorf("Add(%.300v, %v) = %.300v, want %.300v", l, v, got, all)
	}
}

func wantTrim(t *testing.T, l []api.Version, mark int, all []api.Version) {
	t.Helper()
	if got := chain.Trim(l, mark); !same(got, all) {
		t.Errorf("Trim(%.300v, %d) = %.300v, want %.300v", l, mark, got, all)
	}
}

func wantMay(t *testing.T, l []api.Version, ok bool) {
	t.Helper()
	if got := chain.May(l); got != ok {
		t.Errorf("May(%.300v) = %v, want %v", l, got, ok)
	}
}

// wantPlain holds all calls of l, as of pos, with v, to the words of P15.1.
func wantPlain(t *testing.T, l []api.Version, pos int, v api.Version) {
	t.Helper()
	at, ok := plainAt(l, pos)
	wantAt(t, l, pos, at, ok)
	wantLast(t, l, plainLast(l))
	wantAdd(t, l, v, plainAdd(l, v))
	wantTrim(t, l, pos, plainTrim(l, pos))
	wantMay(t, l, plainMay(l))
}

// enough ends a test of very many cases at the first one that fails.
func enough(t *testing.T) {
	t.Helper()
	if t.Failed() {
		t.FailNow()
	}
}

// rows are all rows of at most n of the numbers from least to most.
func rows(least, most, n int) [][]int {
	all := [][]int{nil}
	for from := 0; n > 0; n-- {
		to := len(all)
		for _, r := range all[from:to] {
			for v := least; v <= most; v++ {
				all = append(all, append(clone(r), v))
			}
		}
		from = to
	}
	return all
}

// written makes versions of these positions, no two alike, each third one gone.
func written(row []int) []api.Version {
	l := make([]api.Version, len(row))
	for k, pos := range row {
		l[k] = api.Version{Pos: pos, Val: strings.Repeat("v", k%7), Gone: k%3 == 2}
		if l[k].Gone {
			l[k].Val = ""
		}
	}
	return l
}

// chance makes a version of that position, one that may be.
func chance(r *rand.Rand, pos int) api.Version {
	if r.IntN(4) == 0 {
		return api.Version{Pos: pos, Gone: true}
	}
	val := make([]byte, r.IntN(api.MaxVal+1))
	for k := range val {
		val[k] = byte(r.IntN(256))
	}
	return api.Version{Pos: pos, Val: string(val)}
}

// chances makes up to n versions that may be, one behind the other.
func chances(r *rand.Rand, n int) []api.Version {
	var l []api.Version
	pos, wide := 0, 1+r.IntN(9)
	for range r.IntN(n + 1) {
		pos += 1 + r.IntN(wide)
		l = append(l, chance(r, pos))
	}
	return l
}

// wild makes up to n versions in any order, with whatever in them.
func wild(r *rand.Rand, n int) []api.Version {
	l := make([]api.Version, r.IntN(n+1))
	for k := range l {
		l[k] = chance(r, r.IntN(n+4)-2)
		if r.IntN(8) == 0 {
			l[k].Gone = true
		}
		if r.IntN(8) == 0 {
			l[k].Val += "012345678"
		}
	}
	return l
}
