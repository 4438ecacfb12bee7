package judge_test

import (
	"math/rand/v2"
	"slices"
	"testing"

	"diwan/api"
	"diwan/store"
	"diwan/txn"
)

// wantFronts asks what follows: of all fronts of l the same is said, and the keys as of their ends are those of all, seen from there.
func wantFronts(t *testing.T, l []api.Txn) {
	t.Helper()
	all := fold(l)
	for n := range len(l) + 1 {
		front := fold(l[:n])
		if !slices.Equal(front.said, all.said[:n]) {
			t.Errorf("Fold(%s) said %v, but its first %d %v", short(l), all.said, n, front.said)
		}
		for pos := range n + 1 {
			one, _ := store.Span(front.keys, "", "", pos)
			other, _ := store.Span(all.keys, "", "", pos)
			if !slices.Equal(one, other) {
				t.Errorf("Fold(%s): as of %d keys were %v, but behind its first %d %v", short(l), pos, other, n, one)
			}
		}
	}
}

// TestFronts: the first ones of a longer row are judged the same.
func TestFronts(t *testing.T) {
	r := rand.New(rand.NewPCG(3, 18))
	for k := range 400 {
		enough(t)
		wantFronts(t, rowByChance(r, 25))
		if k%4 == 0 {
			wantFronts(t, wild(r, 12))
		}
	}
}

// TestWhateverComesBehind: of one front the same is said, whatever comes behind it.
func TestWhateverComesBehind(t *testing.T) {
	r := rand.New(rand.NewPCG(4, 18))
	for range 300 {
		enough(t)
		front := rowByChance(r, 15)
		want := fold(front).said
		for range 4 {
			for _, behind := range [][]api.Txn{rowByChance(r, 10), wild(r, 10), front} {
				if got := fold(slices.Concat(front, behind)).said; !slices.Equal(got[:len(front)], want) {
					t.Errorf("of %s in front of %s was said %v, alone %v", short(front), short(behind), got, want)
				}
			}
		}
	}
}

// TestByChance: rows that may be, of which all are judged by the words of P18.1; Yes, No and Twice all come often.
func TestByChance(t *testing.T) {
	r := rand.New(rand.NewPCG(5, 18))
	count := map[int]int{}
	for range 3000 {
		enough(t)
		l := rowByChance(r, 40)
		for _, u := range l {
			if !txn.May(u) {
				t.Fatalf("by chance: %v", u)
			}
		}
		wantPlain(t, l)
		wantEnd(t, l)
		for _, v := range fold(l).said {
			count[v]++
		}
	}
	if len(count) != 3 || min(count[api.Yes], count[api.No], count[api.Twice]) < 5000 {
		t.Errorf("by chance: %v", count)
	}
}

// pool are a few transactions that get in one another's way.
func pool() []api.Txn {
	return rowOf("1:1; 1:2 > a=x; 1:1 a@0 > a=y b=y; 2:1 a@1 > a!; 2:2 b@0 > b=z; 2:1 a@2 b@1; 3:1 a@2 > b=w; 3:2 a@3")
}

// TestAllShortRows: all rows of up to five of a pool of eight.
func TestAllShortRows(t *testing.T) {
	all := pool()
	rows := [][]api.Txn{nil}
	for n := range 6 {
		var next [][]api.Txn
		for _, l := range rows {
			enough(t)
			wantPlain(t, l)
			wantEnd(t, l)
			if n < 5 {
				for _, u := range all {
					next = append(next, append(clone(l), u))
				}
			}
		}
		rows = next
	}
}

// TestNoNumberTwice: of each number of a session one alone is judged, however often and wherever it comes, and none behind a greater one.
func TestNoNumberTwice(t *testing.T) {
	r := rand.New(rand.NewPCG(6, 18))
	for range 300 {
		enough(t)
		l := rowByChance(r, 20)
		l = slices.Concat(l, l, l)
		r.Shuffle(len(l), func(a, b int) { l[a], l[b] = l[b], l[a] })
		had := map[int]int{}
		for k, v := range fold(l).said {
			if late := l[k].Seq <= had[l[k].Session]; late != (v == api.Twice) {
				t.Errorf("Fold(%s) said %d of the one at %d", short(l), v, k+1)
			}
			had[l[k].Session] = max(had[l[k].Session], l[k].Seq)
		}
	}
}

// TestSame: asked again, it tells the same.
func TestSame(t *testing.T) {
	r := rand.New(rand.NewPCG(7, 18))
	for range 100 {
		l := rowByChance(r, 40)
		want := fold(l)
		for range 3 {
			wantFold(t, l, want)
		}
	}
}

// rowOfBytes makes of each three bytes a transaction of up to two reads and two writes.
func rowOfBytes(x string) []api.Txn {
	var l []api.Txn
	for k := 0; k+2 < min(len(x), 300); k += 3 {
		a, b, c := int(x[k]), int(x[k+1]), int(x[k+2])
		u := api.Txn{Session: a%5 - 1, Seq: a/5%11 - 1}
		for i := range b % 3 {
			u.Reads = append(u.Reads, api.Read{Key: names()[(b/3+i)%4], Version: max(0, len(l)-b/12), There: b%2 == 0})
		}
		for i := range c % 3 {
			u.Writes = append(u.Writes, api.Write{Key: names()[(c/3+i)%4], Val: "abcdefghijklmnopqr"[:c/12%18], Gone: c%7 == 0})
		}
		l = append(l, u)
	}
	return l
}

// FuzzFold holds Fold to the words of P18.1, and to what follows, of transactions of three bytes each.
func FuzzFold(f *testing.F) {
	for _, x := range []string{"", "abc", "abcabc", "abcabdacc", "zyxwvutsrqponml", "\x02\x00\x01\x03\x01\x01\x08\x0d\x02\x02\x19\x05", "\x09\x01\x01\x09\xff\x03\x09\x05\x00"} {
		f.Add(x)
	}
	f.Fuzz(func(t *testing.T, x string) {
		l := rowOfBytes(x)
		wantPlain(t, l)
		wantFronts(t, l)
	})
}
