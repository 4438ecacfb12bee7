package store_test

import (
	"fmt"
	"math/rand/v2"
	"reflect"
	"slices"
	"strconv"
	"strings"
	"testing"

	"diwan/api"
	"diwan/store"
)

// versionOf reads a version: "3ab" was ab from position 3 on, "3!" was gone from there on, "3!ab" is gone and has a value, too.
func versionOf(s string) api.Version {
	n := 0
	for n < len(s) && (s[n] == '-' || s[n] >= '0' && s[n] <= '9') {
		n++
	}
	pos, err := strconv.Atoi(s[:n])
	if err != nil {
		panic(err)
	}
	val, gone := strings.CutPrefix(s[n:], "!")
	return api.Version{Pos: pos, Val: val, Gone: gone}
}

// storeOf reads a store: "5 a=1x,3! b=7y" has Mark 5, two versions of a and one of b.
func storeOf(s string) api.Store {
	var st api.Store
	for k, f := range strings.Fields(s) {
		if k == 0 {
			mark, err := strconv.Atoi(f)
			if err != nil {
				panic(err)
			}
			st.Mark = mark
			continue
		}
		name, versions, _ := strings.Cut(f, "=")
		c := api.Chain{Key: name}
		for _, v := range strings.FieldsFunc(versions, func(r rune) bool { return r == ',' }) {
			c.L = append(c.L, versionOf(v))
		}
		st.Chains = append(st.Chains, c)
	}
	return st
}

// writesOf reads writes: "a=x b! c=" is a to be x, b gone, c to be nothing; "d!y" is gone and has a value, too.
func writesOf(s string) []api.Write {
	var l []api.Write
	for _, f := range strings.Fields(s) {
		if name, val, ok := strings.Cut(f, "="); ok {
			l = append(l, api.Write{Key: name, Val: val})
			continue
		}
		name, val, _ := strings.Cut(f, "!")
		l = append(l, api.Write{Key: name, Val: val, Gone: true})
	}
	return l
}

// readsOf reads what keys were that were there: "a=3x" was x from position 3 on.
func readsOf(s string) []api.Read {
	var l []api.Read
	for _, f := range strings.Fields(s) {
		name, version, _ := strings.Cut(f, "=")
		v := versionOf(version)
		l = append(l, api.Read{Key: name, Version: v.Pos, Val: v.Val, There: true})
	}
	return l
}

// clone is a list of its own; of no items it is nil.
func clone[T any](l []T) []T {
	return append([]T(nil), l...)
}

// plainCopy is s in memory of its own, with nil for each list of nothing.
func plainCopy(s api.Store) api.Store {
	s.Chains = clone(s.Chains)
	for k, c := range s.Chains {
		s.Chains[k].L = clone(c.L)
	}
	return s
}

// alike holds stores against each other, a list that is nil and an empty one for one.
func alike(a, b api.Store) bool {
	return reflect.DeepEqual(plainCopy(a), plainCopy(b))
}

// plainKey is P4.1's word on May of a key.
func plainKey(k string) bool {
	ok := len(k) >= 1 && len(k) <= 8
	for _, b := range []byte(k) {
		ok = ok && b >= 33 && b <= 126
	}
	return ok
}

// plainChain is P15.1's word on May of a chain: each is held against all that stand behind it.
func plainChain(l []api.Version) bool {
	for k, v := range l {
		for _, other := range l[k+1:] {
			if other.Pos <= v.Pos {
				return false
			}
		}
		if v.Pos < 1 || len(v.Val) > 16 || v.Gone && v.Val != "" {
			return false
		}
	}
	return true
}

// plainMay is P16.1's word on May: each key is held against all that stand behind it.
func plainMay(s api.Store) bool {
	for k, c := range s.Chains {
		for _, other := range s.Chains[k+1:] {
			if other.Key <= c.Key {
				return false
			}
		}
		if !plainKey(c.Key) || len(c.L) == 0 || !plainChain(c.L) {
			return false
		}
	}
	return s.Mark >= 0
}

// plainGet is P16.1's word on Get: of all versions of key whose Pos is not above pos the one that stands behind all others.
func plainGet(s api.Store, key string, pos int) (api.Read, api.Errno) {
	if pos < s.Mark {
		return api.Read{}, api.EOld
	}
	r := api.Read{Key: key}
	for _, c := range s.Chains {
		for _, v := range c.L {
			if c.Key == key && v.Pos <= pos {
				r.Version, r.Val, r.There = v.Pos, v.Val, !v.Gone
			}
		}
	}
	return r, api.OK
}

// plainSpan is P16.1's word on Span: each key that is There is asked for alone.
func plainSpan(s api.Store, from, to string, pos int) ([]api.Read, api.Errno) {
	if pos < s.Mark {
		return nil, api.EOld
	}
	var all []api.Read
	for _, c := range s.Chains {
		r, _ := plainGet(s, c.Key, pos)
		if r.There && from <= c.Key && (to == "" || c.Key < to) {
			all = append(all, r)
		}
	}
	return all, api.OK
}

// plainLast is P16.1's word on Last.
func plainLast(s api.Store, key string) int {
	pos := 0
	for _, c := range s.Chains {
		for _, v := range c.L {
			if c.Key == key {
				pos = v.Pos
			}
		}
	}
	return pos
}

// plainWrite is P16.1's word on Write, of a store that may be: what was written is kept by its key, and all keys are put in their order in the end.
func plainWrite(s api.Store, pos int, l []api.Write) api.Store {
	all := map[string][]api.Version{}
	for _, c := range s.Chains {
		all[c.Key] = clone(c.L)
	}
	for _, w := range l {
		n := len(all[w.Key])
		if n == 0 && pos > 0 || n > 0 && pos > all[w.Key][n-1].Pos {
			all[w.Key] = append(all[w.Key], api.Version{Pos: pos, Val: w.Val, Gone: w.Gone})
		}
	}
	s.Chains = nil
	for k, versions := range all {
		s.Chains = append(s.Chains, api.Chain{Key: k, L: versions})
	}
	slices.SortFunc(s.Chains, func(a, b api.Chain) int { return strings.Compare(a.Key, b.Key) })
	return s
}

// plainTrim is P16.1's word on Trim: each version is held against all that stand behind it.
func plainTrim(s api.Store, mark int) api.Store {
	s = plainCopy(s)
	if !(mark > s.Mark) {
		return s
	}
	for k, c := range s.Chains {
		var stay []api.Version
		for i, v := range c.L {
			if !slices.ContainsFunc(c.L[i+1:], func(other api.Version) bool { return other.Pos <= mark }) {
				stay = append(stay, v)
			}
		}
		s.Chains[k].L = stay
	}
	s.Mark = mark
	return s
}

// short tells the front of what v is.
func short(v any) string {
	return fmt.Sprintf("%.300s", fmt.Sprint(v))
}

func wantMay(t *testing.T, s api.Store, ok bool) {
	t.Helper()
	if got := store.May(s); got != ok {
		t.Errorf("May(%s) = %v, want %v", short(s), got, ok)
	}
}

// wantSame asks in either order.
func wantSame(t *testing.T, a, b api.Store, ok bool) {
	t.Helper()
	if got, back := store.Same(a, b), store.Same(b, a); got != ok || back != ok {
		t.Errorf("Same(%s, %s) = %v, and %v, want %v", short(a), short(b), got, back, ok)
	}
}

func wantGet(t *testing.T, s api.Store, key string, pos int, r api.Read, e api.Errno) {
	t.Helper()
	if got, why := store.Get(s, key, pos); got != r || why != e {
		t.Errorf("Get(%s, %q, %d) = %v, %d, want %v, %d", short(s), key, pos, got, why, r, e)
	}
}

func wantSpan(t *testing.T, s api.Store, from, to string, pos int, l []api.Read, e api.Errno) {
	t.Helper()
	if got, why := store.Span(s, from, to, pos); !slices.Equal(got, l) || why != e {
		t.Errorf("Span(%s, %q, %q, %d) = %s, %d, want %s, %d", short(s), from, to, pos, short(got), why, short(l), e)
	}
}

func wantLast(t *testing.T, s api.Store, key string, pos int) {
	t.Helper()
	if got := store.Last(s, key); got != pos {
		t.Errorf("Last(%s, %q) = %d, want %d", short(s), key, got, pos)
	}
}

func wantWrite(t *testing.T, s api.Store, pos int, l []api.Write, all api.Store) {
	t.Helper()
	if got := store.Write(s, pos, l); !alike(got, all) {
		t.Errorf("Write(%s, %d, %s) = %s, want %s", short(s), pos, short(l), short(got), short(all))
	}
}

func wantTrim(t *testing.T, s api.Store, mark int, all api.Store) {
	t.Helper()
	if got := store.Trim(s, mark); !alike(got, all) {
		t.Errorf("Trim(%s, %d) = %s, want %s", short(s), mark, short(got), short(all))
	}
}

// wantReads holds all that reads s, which may be, as of pos, to the words of P16.1.
func wantReads(t *testing.T, s api.Store, keys []string, pos int) {
	t.Helper()
	for _, k := range keys {
		r, e := plainGet(s, k, pos)
		wantGet(t, s, k, pos, r, e)
		wantLast(t, s, k, plainLast(s, k))
		for _, to := range keys {
			l, e := plainSpan(s, k, to, pos)
			wantSpan(t, s, k, to, pos, l, e)
		}
	}
}

// enough ends a test of very many cases at the first one that fails.
func enough(t *testing.T) {
	t.Helper()
	if t.Failed() {
		t.FailNow()
	}
}

// names are a few keys, rising, with nothing ahead of them, and of which some begin with another one.
func names() []string {
	return []string{"", "!", "a", "a!", "aa", "b", "ba", "c", "~", "~~~~~~~~"}
}

// chance makes a write of that key, one that may be.
func chance(r *rand.Rand, key string) api.Write {
	if r.IntN(3) == 0 {
		return api.Write{Key: key, Gone: true}
	}
	val := make([]byte, r.IntN(api.MaxVal+1))
	for k := range val {
		val[k] = byte(r.IntN(256))
	}
	return api.Write{Key: key, Val: string(val)}
}

// chances makes up to n writes, of any of names, in any order, some of one key.
func chances(r *rand.Rand, n int) []api.Write {
	var l []api.Write
	for range r.IntN(n + 1) {
		l = append(l, chance(r, names()[1+r.IntN(len(names())-1)]))
	}
	return l
}

// storeByChance makes a store that may be, of so many rows of writes, by plainWrite and plainTrim alone.
func storeByChance(r *rand.Rand, rows int) api.Store {
	var s api.Store
	pos := 0
	for range rows {
		pos += 1 + r.IntN(3)
		s = plainWrite(s, pos, chances(r, 4))
		if r.IntN(4) == 0 {
			s = plainTrim(s, r.IntN(pos+2))
		}
	}
	return s
}
