package store_test

import (
	"math"
	"math/rand/v2"
	"testing"

	"diwan/api"
	"diwan/store"
)

func TestWrite(t *testing.T) {
	const all = "4 b=1x,3y d=2z f=4!"
	for _, x := range []struct {
		s    string
		pos  int
		l    string
		want string
	}{
		// to nothing
		{"", 1, "a=x", "0 a=1x"},
		{"", 5, "a=", "0 a=5"},
		{"", 5, "a!", "0 a=5!"},
		{"", 9223372036854775807, "a=x", "0 a=9223372036854775807x"},
		{"7", 9, "a=x", "7 a=9x"},
		{"", 1, "a=x b=y c!", "0 a=1x b=1y c=1!"},
		// of no writes
		{"", 1, "", ""},
		{"7", 9, "", "7"},
		{all, 5, "", all},
		{all, 0, "", all},
		// of a key's first one: ahead of the others, between them, behind them
		{all, 5, "a=n", "4 a=5n b=1x,3y d=2z f=4!"},
		{all, 5, "!=n", "4 !=5n b=1x,3y d=2z f=4!"},
		{all, 5, "c=n", "4 b=1x,3y c=5n d=2z f=4!"},
		{all, 5, "bb=n", "4 b=1x,3y bb=5n d=2z f=4!"},
		{all, 5, "e!", "4 b=1x,3y d=2z e=5! f=4!"},
		{all, 5, "g=n", "4 b=1x,3y d=2z f=4! g=5n"},
		{all, 5, "f!=n", "4 b=1x,3y d=2z f=4! f!=5n"},
		{"0 b=1x", 2, "a=n", "0 a=2n b=1x"},
		{"0 b=1x", 2, "c=n", "0 b=1x c=2n"},
		{"0 b=1x", 2, "B=n", "0 B=2n b=1x"},
		{"0 10=1x", 2, "9=n", "0 10=1x 9=2n"},
		// its position may be below those of others, and below the Mark
		{all, 1, "a=n", "4 a=1n b=1x,3y d=2z f=4!"},
		{all, 2, "e=n", "4 b=1x,3y d=2z e=2n f=4!"},
		// of a key that has a chain, above its Last
		{all, 5, "b=n", "4 b=1x,3y,5n d=2z f=4!"},
		{all, 4, "b=n", "4 b=1x,3y,4n d=2z f=4!"},
		{all, 5, "b!", "4 b=1x,3y,5! d=2z f=4!"},
		{all, 3, "d=n", "4 b=1x,3y d=2z,3n f=4!"},
		{all, 5, "f=n", "4 b=1x,3y d=2z f=4!,5n"},
		{all, 5, "f!", "4 b=1x,3y d=2z f=4!,5!"}, // gone once more
		{all, 600, "d=z", "4 b=1x,3y d=2z,600z f=4!"},
		{all, 9223372036854775807, "d=n", "4 b=1x,3y d=2z,9223372036854775807n f=4!"},
		{"0 a=1x", 4294967297, "a=n", "0 a=1x,4294967297n"},
		// not above it
		{all, 3, "b=n", all},
		{all, 2, "b=n", all}, // there is room for it, but not behind the others
		{all, 1, "b=n", all},
		{all, 2, "d=n", all},
		{all, 2, "d!", all},
		{all, 4, "f=n", all},
		{all, 0, "f=n", all},
		{all, -1, "b=n", all},
		{all, -9223372036854775808, "b=n", all},
		{"0 a=4294967297x", 2, "a=n", "0 a=4294967297x"},
		// a first one that comes too early begins no chain
		{"", 0, "a=n", ""},
		{"", -1, "a=n", ""},
		{"", -9223372036854775808, "a!", ""},
		{all, 0, "c=n", all},
		{all, -1, "a=n g!", all},
		// several at once, in any order
		{all, 5, "b=n d=n f=n", "4 b=1x,3y,5n d=2z,5n f=4!,5n"},
		{all, 5, "f=n d=m b!", "4 b=1x,3y,5! d=2z,5m f=4!,5n"},
		{all, 5, "a=l c=m e=n g=o", "4 a=5l b=1x,3y c=5m d=2z e=5n f=4! g=5o"},
		{all, 5, "g=o e=n c=m a=l", "4 a=5l b=1x,3y c=5m d=2z e=5n f=4! g=5o"},
		{all, 5, "a=n b=n", "4 a=5n b=1x,3y,5n d=2z f=4!"},
		{all, 5, "a=n g=m", "4 a=5n b=1x,3y d=2z f=4! g=5m"},
		{all, 3, "b=n d=m", "4 b=1x,3y d=2z,3m f=4!"}, // one of them too late
		{all, 3, "d=m b=n e=o", "4 b=1x,3y d=2z,3m e=3o f=4!"},
		{all, 3, "f=o b=n d=m", "4 b=1x,3y d=2z,3m f=4!"},
		// of one key several: the first one is there, and what comes behind it is not above
		{"", 5, "a=n a=m", "0 a=5n"},
		{"", 5, "a! a=m", "0 a=5!"},
		{all, 5, "b=n b!", "4 b=1x,3y,5n d=2z f=4!"},
		{all, 5, "c=n a=m c=o a=p", "4 a=5m b=1x,3y c=5n d=2z f=4!"},
		// of whatever is in them
		{"", 5, "=n", "0 =5n"},
		{all, 5, "=n", "4 =5n b=1x,3y d=2z f=4!"},
		{all, 5, "bbbbbbbbbb=n", "4 b=1x,3y bbbbbbbbbb=5n d=2z f=4!"},
		{all, 5, "d=abcdefghijklmnopq", "4 b=1x,3y d=2z,5abcdefghijklmnopq f=4!"},
		{all, 5, "d!n", "4 b=1x,3y d=2z,5!n f=4!"},
		// to those that may not be, too
		{"-2 a=1x", 2, "b=n", "-2 a=1x b=2n"},
		{"0 a=", 5, "a=n", "0 a=5n"},
		{"0 a=", 0, "a=n", "0 a="},
		{"0 c=1x a=2y", 5, "a=n", "0 c=1x a=2y,5n"},
		{"0 a=1x a=2y", 5, "a=n", "0 a=1x,5n a=2y"},
		{"0 a=5x,3y", 4, "a=n", "0 a=5x,3y,4n"},
		{"0 a=-5x", -4, "a=n", "0 a=-5x,-4n"},
	} {
		s, l := storeOf(x.s), writesOf(x.l)
		wantWrite(t, s, x.pos, l, storeOf(x.want))
		if plainMay(s) && !alike(plainWrite(s, x.pos, l), storeOf(x.want)) {
			t.Errorf("plainWrite(%s, %d, %s) = %v", x.s, x.pos, x.l, plainWrite(s, x.pos, l))
		}
	}
}

// TestWriteToNothing: however nothing is handed in.
func TestWriteToNothing(t *testing.T) {
	for _, l := range [][]api.Chain{nil, {}, make([]api.Chain, 0, 3), storeOf("0 a=1x b=2y").Chains[:0], storeOf("0 a=1x b=2y").Chains[2:]} {
		for _, none := range [][]api.Write{nil, {}, make([]api.Write, 0, 3), writesOf("a=x")[:0]} {
			wantWrite(t, api.Store{Chains: l, Mark: 3}, 5, none, api.Store{Mark: 3})
		}
		wantWrite(t, api.Store{Chains: l, Mark: 3}, 5, writesOf("b=x a!"), storeOf("3 a=5! b=5x"))
		wantWrite(t, api.Store{Chains: l, Mark: 3}, 0, writesOf("b=x a!"), api.Store{Mark: 3})
	}
}

// TestWriteOfAll: all rows of at most three writes, to each store of three keys that has some of them.
func TestWriteOfAll(t *testing.T) {
	var rows [][]api.Write
	for _, a := range []string{"", "a=n ", "b! ", "c=m "} {
		for _, b := range []string{"", "a! ", "b=n ", "c=o "} {
			for _, c := range []string{"", "a=p ", "b=q ", "c! "} {
				rows = append(rows, writesOf(a+b+c))
			}
		}
	}
	for _, a := range []string{"", " a=2x", " a=1!,4y"} {
		for _, b := range []string{"", " b=1z", " b=2z,3!"} {
			for _, c := range []string{"", " c=3u", " c=2u,4v"} {
				s := storeOf("1" + a + b + c)
				for pos := -1; pos <= 6; pos++ {
					for _, l := range rows {
						wantWrite(t, s, pos, l, plainWrite(s, pos, l))
					}
				}
				enough(t)
			}
		}
	}
}

// TestWriteStaysOne: to a store that may be, of writes that may be, it is one that may be; one by one or all at once.
func TestWriteStaysOne(t *testing.T) {
	r := rand.New(rand.NewPCG(3, 16))
	for range 2000 {
		enough(t)
		s := storeByChance(r, r.IntN(12))
		pos, l := r.IntN(40)-2, chances(r, 6)
		got := store.Write(s, pos, l)
		wantMay(t, got, true)
		wantWrite(t, s, pos, l, plainWrite(s, pos, l))
		one := s
		for _, w := range l {
			one = store.Write(one, pos, []api.Write{w})
		}
		wantSame(t, got, one, true)
		// and once more is too late
		wantWrite(t, got, pos, l, got)
	}
}

// TestWriteOneByOne: what was written one behind the other is the store, whatever came too late.
func TestWriteOneByOne(t *testing.T) {
	r := rand.New(rand.NewPCG(4, 16))
	for range 200 {
		enough(t)
		var s, want api.Store
		for pos := 1; pos < 30; pos++ {
			l := chances(r, 4)
			s, want = store.Write(s, pos, l), plainWrite(want, pos, l)
			if r.IntN(5) == 0 {
				mark := r.IntN(pos + 2)
				s, want = store.Trim(s, mark), plainTrim(want, mark)
			}
			if !alike(s, want) {
				t.Fatalf("at %d: %v, want %v", pos, s, want)
			}
		}
		wantReads(t, s, names(), s.Mark+r.IntN(30))
	}
}

// TestWriteIsSeenFromThere: from its position on what was written is told, ahead of it what was told before.
func TestWriteIsSeenFromThere(t *testing.T) {
	r := rand.New(rand.NewPCG(5, 16))
	for range 600 {
		enough(t)
		s := storeByChance(r, r.IntN(12))
		pos, l := 40+r.IntN(3), chances(r, 4)
		got := store.Write(s, pos, l)
		for at := -1; at < pos; at++ {
			for _, k := range names() {
				was, e := store.Get(s, k, at)
				wantGet(t, got, k, at, was, e)
			}
			was, e := store.Span(s, "", "", at)
			wantSpan(t, got, "", "", at, was, e)
		}
		seen := map[string]bool{}
		for _, w := range l {
			for _, at := range []int{pos, pos + 1, math.MaxInt} {
				if !seen[w.Key] {
					wantGet(t, got, w.Key, at, api.Read{Key: w.Key, Version: pos, Val: w.Val, There: !w.Gone}, api.OK)
				}
			}
			seen[w.Key] = true
			wantLast(t, got, w.Key, pos)
		}
		for _, k := range names() {
			if !seen[k] {
				was, e := store.Get(s, k, math.MaxInt)
				wantGet(t, got, k, math.MaxInt, was, e)
				wantLast(t, got, k, store.Last(s, k))
			}
		}
	}
}

// TestWriteOfMany: far more than one transaction writes, in one and from the last key to the first.
func TestWriteOfMany(t *testing.T) {
	const all = 1000
	var l []api.Write
	want := many(all)
	for k := all - 1; k >= 0; k-- {
		l = append(l, api.Write{Key: want.Chains[k].Key, Val: "v"})
		want.Chains[k].L[0].Pos = 7
	}
	wantWrite(t, api.Store{}, 7, l, want)
}

// TestWriteOfLong: of one key far more versions than logs have entries.
func TestWriteOfLong(t *testing.T) {
	var s, want api.Store
	want.Chains = []api.Chain{{Key: "a"}}
	for pos := 1; pos <= 2000; pos++ {
		s = store.Write(s, pos, writesOf("a=x"))
		want.Chains[0].L = append(want.Chains[0].L, api.Version{Pos: pos, Val: "x"})
	}
	if !alike(s, want) {
		t.Errorf("one by one: %s", short(s))
	}
	wantTrim(t, s, 1500, api.Store{Chains: []api.Chain{{Key: "a", L: want.Chains[0].L[1499:]}}, Mark: 1500})
}
