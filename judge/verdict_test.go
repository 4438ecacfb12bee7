package judge_test

import (
	"testing"

	"diwan/api"
)

// TestExample: two that read one key and both write it.
func TestExample(t *testing.T) {
	wantFold(t, []api.Txn{
		{Session: 1, Seq: 1, Reads: []api.Read{{Key: "k"}}, Writes: []api.Write{{Key: "k", Val: "x"}}},
		{Session: 2, Seq: 1, Reads: []api.Read{{Key: "k"}}, Writes: []api.Write{{Key: "k", Val: "y"}}},
	}, answer{
		[]int{api.Yes, api.No},
		api.Store{Chains: []api.Chain{{Key: "k", L: []api.Version{{Pos: 1, Val: "x"}}}}},
		[]api.Seat{{Session: 1, Seq: 1, Pos: 1}, {Session: 2, Seq: 1, Pos: 2}},
	})
}

// TestOfNothing: however nothing is handed in.
func TestOfNothing(t *testing.T) {
	for _, l := range [][]api.Txn{nil, {}, make([]api.Txn, 0, 3), rowOf("1:1 > a=x; 2:1")[:0], rowOf("1:1 > a=x; 2:1")[2:], rowOf("1:1 > a=x; 2:1")[1:1]} {
		wantFold(t, l, answer{})
		a := fold(l)
		if len(a.said) != 0 || len(a.keys.Chains) != 0 || a.keys.Mark != 0 || len(a.seats) != 0 {
			t.Errorf("Fold of nothing = %v", a)
		}
	}
}

func TestOfOne(t *testing.T) {
	for _, x := range []byHand{
		// of no reads and no writes
		{"1:1", "y", "", "1:1@1"},
		{"9:1000", "y", "", "9:1000@1"},
		{"4:7", "y", "", "4:7@1"},
		// of writes alone
		{"1:1 > a=x", "y", "a=1x", "1:1@1"},
		{"1:1 > a=", "y", "a=1", "1:1@1"},
		{"1:1 > a!", "y", "a=1!", "1:1@1"},
		{"3:2 > a=x b! c=abcdefghijklmnop d=y", "y", "a=1x b=1! c=1abcdefghijklmnop d=1y", "3:2@1"},
		// of reads alone
		{"1:1 a@0", "y", "", "1:1@1"},
		{"1:1 a@1", "n", "", "1:1@1"},
		{"1:1 a@0 b@0 c@0 d@0 e@0 f@0", "y", "", "1:1@1"},
		{"1:1 a@0 b@0 c@0 d@0 e@0 f@600", "n", "", "1:1@1"},
		// of both
		{"5:6 a@0 > b=x", "y", "b=1x", "5:6@1"},
		{"5:6 a@0 > a=x", "y", "a=1x", "5:6@1"},
		{"5:6 a@1 > b=x", "n", "", "5:6@1"},
		{"5:6 a@1 > a=x", "n", "", "5:6@1"}, // not what it writes itself
	} {
		x.hold(t)
	}
}

func TestTwice(t *testing.T) {
	for _, x := range []byHand{
		// a number that it had
		{"1:1; 1:1", "yt", "", "1:1@1"},
		{"1:1 > a=x; 1:1 > a=x", "yt", "a=1x", "1:1@1"},
		{"1:1 > a=x; 1:1 > a=y b=z", "yt", "a=1x", "1:1@1"},
		{"7:1000 > a=x; 7:1000 > a=y", "yt", "a=1x", "7:1000@1"},
		// not only right behind it
		{"1:1 > a=x; 2:1; 3:1; 1:1 > a=y", "yyyt", "a=1x", "1:1@1 2:1@2 3:1@3"},
		{"1:1 > a=x; 1:1 > a=y; 1:1 > a=z; 1:1 > a=u", "yttt", "a=1x", "1:1@1"},
		// a lesser one
		{"1:2 > a=x; 1:1 > a=y", "yt", "a=1x", "1:2@1"},
		{"1:1000 > a=x; 1:999 > a=y; 1:1 > b=z", "ytt", "a=1x", "1:1000@1"},
		{"1:1; 1:5 > a=x; 1:3 > a=y", "yyt", "a=2x", "1:5@2"},
		// a greater one is judged
		{"1:1 > a=x; 1:2 > a=y", "yy", "a=1x,2y", "1:2@2"},
		{"1:1 > a=x; 1:1000 > a=y", "yy", "a=1x,2y", "1:1000@2"},
		{"1:1 > a=x; 1:2 a@0 > a=y", "yn", "a=1x", "1:2@2"},
		{"1:1 > a=x; 1:1 > a=y; 1:2 > a=z", "yty", "a=1x,3z", "1:2@3"},
		{"1:5 > a=x; 1:3 > a=y; 1:4 > a=z; 1:6 > a=u", "ytty", "a=1x,4u", "1:6@4"}, // those in between neither lower the seat nor raise it
		// another session's is judged
		{"1:1 > a=x; 2:1 > a=y", "yy", "a=1x,2y", "1:1@1 2:1@2"},
		{"2:9 > a=x; 1:1 > a=y; 3:1 > a=z", "yyy", "a=1x,2y,3z", "1:1@2 2:9@1 3:1@3"},
		{"1:1; 2:2; 1:2; 2:1", "yyyt", "", "1:2@3 2:2@2"},
		// ahead of what its reads would say
		{"1:1; 1:1 a@0", "yt", "", "1:1@1"},
		{"1:1; 1:1 a@1", "yt", "", "1:1@1"},
		{"1:1 > a=x; 1:1 a@0", "yt", "a=1x", "1:1@1"},
		{"1:1 > a=x; 1:1 a@1", "yt", "a=1x", "1:1@1"},
		{"1:2 > a=x; 1:1 a@1 > a=y", "yt", "a=1x", "1:2@1"},
		{"1:2 > a=x; 1:1 a@0 > a=y", "yt", "a=1x", "1:2@1"},
		// a number that was judged No was had, too
		{"1:1 a@7; 1:1", "nt", "", "1:1@1"},
		{"1:1 a@7 > a=x; 1:1 a@0 > a=x", "nt", "", "1:1@1"},
		{"1:2 a@7 > a=x; 1:1 a@0 > a=x", "nt", "", "1:2@1"},
		{"1:2 a@7 > a=x; 1:3 a@0 > a=x", "ny", "a=2x", "1:3@2"},
		{"2:1 > a=x; 1:1 a@0 > a=y; 1:1 a@1 > a=y; 1:2 a@1 > a=y", "ynty", "a=1x,4y", "1:2@4 2:1@1"},
	} {
		x.hold(t)
	}
}

func TestYesAndNo(t *testing.T) {
	const three = "1:1 > a=x b=y; 2:1 > b=z; 3:1 > c=u; " // a at 1, b at 2, c at 3
	const keys, seats = "a=1x b=1y,2z c=3u", "1:1@1 2:1@2 3:1@3 4:1@4"
	for _, x := range []byHand{
		// of a key that no one wrote
		{three + "4:1 d@0", "yyyy", keys, seats},
		{three + "4:1 d@1", "yyyn", keys, seats},
		{three + "4:1 d@3", "yyyn", keys, seats},
		{three + "4:1 d@4", "yyyn", keys, seats},
		{three + "4:1 aa@0", "yyyy", keys, seats}, // one that begins as another one's does
		{three + "4:1 aa@1", "yyyn", keys, seats},
		{three + "4:1 A@0", "yyyy", keys, seats},
		{three + "4:1 A@1", "yyyn", keys, seats},
		// of one at its last version
		{three + "4:1 a@1", "yyyy", keys, seats},
		{three + "4:1 b@2", "yyyy", keys, seats},
		{three + "4:1 c@3", "yyyy", keys, seats},
		// below it
		{three + "4:1 a@0", "yyyn", keys, seats},
		{three + "4:1 b@1", "yyyn", keys, seats},
		{three + "4:1 b@0", "yyyn", keys, seats},
		{three + "4:1 c@2", "yyyn", keys, seats},
		{three + "4:1 c@0", "yyyn", keys, seats},
		// above it
		{three + "4:1 a@2", "yyyn", keys, seats},
		{three + "4:1 b@3", "yyyn", keys, seats},
		{three + "4:1 b@4", "yyyn", keys, seats}, // its own position
		{three + "4:1 c@4", "yyyn", keys, seats},
		{three + "4:1 c@4294967299", "yyyn", keys, seats},
		// of several: all hold, or the first one does not, one between, the last one
		{three + "4:1 a@1 b@2 c@3 d@0", "yyyy", keys, seats},
		{three + "4:1 a@0 b@2 c@3 d@0", "yyyn", keys, seats},
		{three + "4:1 a@1 b@1 c@3 d@0", "yyyn", keys, seats},
		{three + "4:1 a@1 b@2 c@4 d@0", "yyyn", keys, seats},
		{three + "4:1 a@1 b@2 c@3 d@4", "yyyn", keys, seats},
		{three + "4:1 a@1 b@2 c@3 d@0 e@0 f@0", "yyyy", keys, seats},
		{three + "4:1 a@1 b@2 c@3 d@0 e@0 f@1", "yyyn", keys, seats},
		{three + "4:1 a@0 b@0 c@0 d@1", "yyyn", keys, seats},
		{three + "4:1 a@2 b@1", "yyyn", keys, seats}, // one too much, one too little
		// that another one holds is nothing to it
		{three + "4:1 a@2 b@2", "yyyn", keys, seats},
		{three + "4:1 a@3 c@3", "yyyn", keys, seats},
		// its Version alone is asked
		{three + "4:1 a@1=x b@2=z", "yyyy", keys, seats},
		{three + "4:1 a@1=other b@2=y", "yyyy", keys, seats},
		{three + "4:1 a@1= d@0=there", "yyyy", keys, seats},
		{three + "4:1 a@0=x", "yyyn", keys, seats},
		{three + "4:1 b@1=y", "yyyn", keys, seats},
		{three + "4:1 d@1=x", "yyyn", keys, seats},
		// of no reads, whatever was written
		{three + "4:1 > a=n", "yyyy", "a=1x,4n b=1y,2z c=3u", seats},
		// behind Yes all is written, behind No nothing of it
		{three + "4:1 a@1 b@2 > a=n b=n d=n", "yyyy", "a=1x,4n b=1y,2z,4n c=3u d=4n", seats},
		{three + "4:1 a@1 b@1 > a=n b=n d=n", "yyyn", keys, seats},
		{three + "4:1 a@0 b@2 > b! d! e! f!", "yyyn", keys, seats},
		{three + "4:1 b@1 > d=n; 5:1 d@0", "yyyny", keys, seats + " 5:1@5"},
		{three + "4:1 b@1 > d=n; 5:1 d@4", "yyynn", keys, seats + " 5:1@5"},
		{three + "4:1 b@2 > d=n; 5:1 d@4", "yyyyy", keys + " d=4n", seats + " 5:1@5"},
		{three + "4:1 b@2 > d=n; 5:1 d@0", "yyyyn", keys + " d=4n", seats + " 5:1@5"},
		// what was said of one ahead is nothing to one that read something else
		{three + "4:1 a@0; 5:1 a@1; 6:1 a@0; 7:1 a@1", "yyynyny", keys, seats + " 5:1@5 6:1@6 7:1@7"},
	} {
		x.hold(t)
	}
}

// TestReadsOfEachWidth: of one read to MaxReads, all hold; one that does not hold, at each place, makes it No.
func TestReadsOfEachWidth(t *testing.T) {
	for n := 1; n <= api.MaxReads; n++ {
		for bad := range n + 1 {
			for _, by := range []int{-1, 1, 1 << 32} {
				l := rowOf("1:1 > k1=x k3=x k5=x; 2:1 > k2=x k4=x k6=x; 3:1 > k1=y k2=y k3=y")
				last := []int{3, 3, 3, 2, 1, 2}
				u := api.Txn{Session: 4, Seq: 1, Writes: []api.Write{{Key: "new"}}}
				for k := range n {
					u.Reads = append(u.Reads, api.Read{Key: "k" + string(rune('1'+k)), Version: last[k]})
				}
				want, keys := saidOf("yyyy"), "k1=1x,3y k2=2x,3y k3=1x,3y k4=2x k5=1x k6=2x new=4"
				if bad < n {
					u.Reads[bad].Version += by
					want, keys = saidOf("yyyn"), "k1=1x,3y k2=2x,3y k3=1x,3y k4=2x k5=1x k6=2x"
				}
				wantFold(t, append(l, u), answer{want, keysOf(keys), seatsOf("1:1@1 2:1@2 3:1@3 4:1@4")})
			}
		}
	}
}

// TestOnlyVersionsAreAsked: whatever else a Read says, the same is said.
func TestOnlyVersionsAreAsked(t *testing.T) {
	l := rowOf("1:1 > a=x b=y; 2:1 a@1=x c@0 > a=z; 3:1 a@1=x > b=u; 4:1 a@2=z b@1=y > c!; 5:1 b@1 c@4; 6:1 c@0")
	want := fold(l)
	if !want.is(answer{saidOf("yynyyn"), keysOf("a=1x,2z b=1y c=4!"), seatsOf("1:1@1 2:1@2 3:1@3 4:1@4 5:1@5 6:1@6")}) {
		t.Errorf("Fold(%v) = %v", l, want)
	}
	for _, val := range []string{"", "x", "\x00", "far too long for a value"} {
		for _, there := range []bool{false, true} {
			other := clone(l)
			for k, u := range l {
				other[k].Reads = clone(u.Reads)
				for i := range u.Reads {
					other[k].Reads[i].Val, other[k].Reads[i].There = val, there
				}
			}
			wantFold(t, other, want)
		}
	}
}
