package epoch_test

import (
	"math"
	"math/rand/v2"
	"strings"
	"testing"

	"diwan/api"
	"diwan/epoch"
)

// turns are changes to an entry that leave it what it is, a Seal or a transaction.
func turns() []func(*api.Entry) {
	long := strings.Repeat("x", 300)
	many := make([]api.Read, 50)
	return []func(*api.Entry){
		func(e *api.Entry) { *e = api.Entry{Seal: e.Seal} },
		func(e *api.Entry) { e.Term = 0 },
		func(e *api.Entry) { e.Term = -1 },
		func(e *api.Entry) { e.Term = math.MaxInt },
		func(e *api.Entry) { e.Term = math.MinInt },
		func(e *api.Entry) { e.T = api.Txn{} },
		func(e *api.Entry) { e.T = carried('q') },
		func(e *api.Entry) { e.T.Session, e.T.Seq = 0, -3 },
		func(e *api.Entry) { e.T.Reads = nil },
		func(e *api.Entry) { e.T.Reads = []api.Read{} },
		func(e *api.Entry) { e.T.Reads = many },
		func(e *api.Entry) { e.T.Reads = []api.Read{{Key: long, Version: -1, Val: long}} },
		func(e *api.Entry) { e.T.Writes = nil },
		func(e *api.Entry) { e.T.Writes = []api.Write{} },
		func(e *api.Entry) { e.T.Writes = make([]api.Write, 50) },
		func(e *api.Entry) { e.T.Writes = []api.Write{{Key: long, Val: long, Gone: true}} },
		func(e *api.Entry) { e.T.Reads, e.T.Writes = nil, nil },
	}
}

// TestHeedsSealsAlone: neither the terms of entries nor what a transaction has, a Seal's too, change any answer.
func TestHeedsSealsAlone(t *testing.T) {
	for _, s := range []string{"a", "|", "A", "ab|c", "aBCd|", "|a", "ab", "|||", "a|b||Cd"} {
		batches := plainCut(logOf(s))
		for n, f := range turns() {
			all := logOf(s)
			for at := range all {
				l := logOf(s)
				f(&l[at])
				f(&all[at])
				want(t, l, batches)
			}
			want(t, all, batches)
			if t.Failed() {
				t.Fatalf("%s, turned by the %d-th", s, n)
			}
		}
	}
}

// TestTermsInAnyOrder: that they rise, fall or stay is nothing to a batch.
func TestTermsInAnyOrder(t *testing.T) {
	for _, terms := range [][]int{{1, 1, 1, 1, 1}, {1, 2, 3, 4, 5}, {5, 4, 3, 2, 1}, {0, 0, 0, 0, 0}, {-1, 7, -1, 7, 0}, {1, 1, 2, 2, 2}} {
		l := logOf("ab|cd")
		for k := range l {
			l[k].Term = terms[k]
		}
		want(t, l, batchesOf("1 2,4 5"))
	}
}

// TestLogsThatCarryAlike: what an entry carries does not tell one index from another one.
func TestLogsThatCarryAlike(t *testing.T) {
	e, seal := api.Entry{Term: 1, T: carried('a')}, api.Entry{Term: 1, Seal: true, T: carried('a')}
	want(t, []api.Entry{e, e, seal, e, seal, seal, e}, batchesOf("1 2,4,,7"))
	want(t, []api.Entry{seal, seal}, batchesOf(",,"))
	want(t, []api.Entry{e, e}, batchesOf("1 2"))
}

// TestAskedOfAPart: what stands ahead of a log and behind it is not looked at; the indices are those of the part.
func TestAskedOfAPart(t *testing.T) {
	const s = "|a|bc||D|"
	for from := range len(s) + 1 {
		for to := from; to <= len(s); to++ {
			want(t, logOf(s)[from:to], plainCut(logOf(s[from:to])))
		}
	}
}

// chance makes a log of n entries, of which one in so many is a Seal.
func chance(r *rand.Rand, n, in int) []api.Entry {
	l := make([]api.Entry, n)
	for k := range l {
		l[k] = api.Entry{Term: r.IntN(5) - 1, Seal: r.IntN(in) == 0}
		if r.IntN(2) == 0 {
			l[k].T = carried(byte('a' + r.IntN(26)))
		}
	}
	return l
}

// wantGoingOn holds Cut of a log that goes on to the batches that it had: all stay, but for the last one, which goes on.
func wantGoingOn(t *testing.T, l []api.Entry, n int) {
	t.Helper()
	was, is := epoch.Cut(l[:n]), epoch.Cut(l)
	last := len(was) - 1
	if len(is) <= last || !same(was[:last], is[:last]) {
		t.Fatalf("of %s, and its first %d: %v, %v", textOf(l), n, is, was)
	}
	if so := len(was[last]); len(is[last]) < so || !same(was[last:], [][]int{is[last][:so]}) {
		t.Fatalf("of %s, and its first %d: %v, %v", textOf(l), n, is, was)
	}
	if more := plainSealed(l[n:]); len(is) != len(was)+more {
		t.Fatalf("of %s, and its first %d: %v, %v, with %d Seals more", textOf(l), n, is, was, more)
	}
}

func TestALogGoesOn(t *testing.T) {
	r := rand.New(rand.NewPCG(1, 13))
	for range 300 {
		l := chance(r, r.IntN(api.MaxLog+1), 1+r.IntN(20))
		for n := range len(l) + 1 {
			wantGoingOn(t, l, n)
		}
	}
}

// wantAnew holds Cut of l behind its k-th entry, which is a Seal, to Cut of what stands there alone.
func wantAnew(t *testing.T, l []api.Entry, k int) {
	t.Helper()
	ahead, behind := epoch.Cut(l[:k]), epoch.Cut(l[k:])
	for _, batch := range behind {
		for i := range batch {
			batch[i] += k
		}
	}
	// The Seal itself ends the last batch ahead of it: behind it there is nothing but an empty one so far.
	if all := append(ahead[:len(ahead)-1], behind...); !same(epoch.Cut(l), all) {
		t.Fatalf("Cut(%s) = %v, behind its entry %d: %v", textOf(l), epoch.Cut(l), k, behind)
	}
	if epoch.Sealed(l) != epoch.Sealed(l[:k])+epoch.Sealed(l[k:]) {
		t.Fatalf("Sealed(%s) = %d", textOf(l), epoch.Sealed(l))
	}
}

func TestBehindASealItBeginsAnew(t *testing.T) {
	r := rand.New(rand.NewPCG(2, 13))
	for range 300 {
		l := chance(r, r.IntN(api.MaxLog+1), 1+r.IntN(20))
		for k := range l {
			if l[k].Seal {
				wantAnew(t, l, k+1)
			}
		}
	}
}

func TestByChance(t *testing.T) {
	r := rand.New(rand.NewPCG(3, 13))
	for range 3000 {
		l := chance(r, r.IntN(api.MaxLog+1), 1+r.IntN(20))
		want(t, l, plainCut(l))
	}
}

func FuzzCut(f *testing.F) {
	for _, s := range []string{"", "a", "|", "ab|c", "||", "|a|", "a|||b", "abCde||fG|h|IJk|"} {
		f.Add(s, uint(0))
		f.Add(s, uint(2))
	}
	f.Fuzz(func(t *testing.T, s string, n uint) {
		l := logOf(s[:min(len(s), 300)])
		want(t, l, plainCut(l))
		wantGoingOn(t, l, int(n%uint(len(l)+1)))
		for k := range l {
			if l[k].Seal {
				wantAnew(t, l, k+1)
			}
		}
	})
}
