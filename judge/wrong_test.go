package judge_test

import (
	"math"
	"math/rand/v2"
	"strings"
	"testing"

	"diwan/api"
)

// edges are numbers at which one may go wrong.
func edges() []int {
	return []int{math.MinInt, math.MinInt + 1, -1 << 32, -1, 0, 1, 2, 1 << 32, 1<<32 + 1, math.MaxInt - 1, math.MaxInt}
}

// TestWhatMayNotBe: transactions that may not be are judged by the same words.
func TestWhatMayNotBe(t *testing.T) {
	for _, x := range []byHand{
		// sessions and numbers of 0 and below, and beyond what there may be
		{"0:0; 0:0; 0:1", "yty", "", "0:1@3"},
		{"-1:-1 > a=x; -1:-2 > a=y; -1:0 > a=z", "yty", "a=1x,3z", "-1:0@3"},
		{"0:-5; 1:1; -7:3; 0:-6; 0:-5; 0:-4", "yyytty", "", "-7:3@3 0:-4@6 1:1@2"},
		{"10:1001; 4294967297:1; 1:1; 10:1002", "yyyy", "", "1:1@3 10:1002@4 4294967297:1@2"},
		// versions below 0, and beyond all positions
		{"1:1 a@-1", "n", "", "1:1@1"},
		{"1:1 > a=x; 2:1 a@-1; 3:1 a@1", "yny", "a=1x", "1:1@1 2:1@2 3:1@3"},
		{"1:1 > a=x; 2:1 a@-9223372036854775808; 3:1 a@9223372036854775807", "ynn", "a=1x", "1:1@1 2:1@2 3:1@3"},
		// a Read that is There at version 0
		{"1:1 a@0=x > a=y; 2:1 a@1", "yy", "a=1y", "1:1@1 2:1@2"},
		// keys that do not rise
		{"1:1 > c=x b=y a=z; 2:1 c@1 b@1 a@1", "yy", "a=1z b=1y c=1x", "1:1@1 2:1@2"},
		{"1:1 > a=x; 2:1 a@1 a@1 > b=y; 3:1 a@1 a@2 > b=z", "yyn", "a=1x b=2y", "1:1@1 2:1@2 3:1@3"},
		{"1:1 > a=x; 2:1 a@0 a@1; 3:1 a@1 a@0", "ynn", "a=1x", "1:1@1 2:1@2 3:1@3"},
		// a key that is written twice: the second one is not above the first one's position
		{"1:1 > a=x a=y; 2:1 a@1", "yy", "a=1x", "1:1@1 2:1@2"},
		{"1:1 > a=x a! b=z a=u; 2:1 > a! a=v", "yy", "a=1x,2! b=1z", "1:1@1 2:1@2"},
		// values that are too long, and of what is gone
		{"1:1 > a=abcdefghijklmnopqrstuvw; 2:1 a@1 > b!c", "yy", "a=1abcdefghijklmnopqrstuvw b=2!c", "1:1@1 2:1@2"},
		// more reads and writes than there may be
		{"1:1 > a=t b=u c=v d=w e=x f=y g=z; 2:1 a@1 b@1 c@1 d@1 e@1 f@1 g@1 h@0; 3:1 a@1 b@1 c@1 d@1 e@1 f@1 g@0", "yyn",
			"a=1t b=1u c=1v d=1w e=1x f=1y g=1z", "1:1@1 2:1@2 3:1@3"},
	} {
		x.hold(t)
	}
}

// TestKeysThatMayNotBe: they are names, too.
func TestKeysThatMayNotBe(t *testing.T) {
	for _, key := range []string{"", " ", "\x00", "\xff", "ü", "ninebytes", strings.Repeat("k", 1000)} {
		write := []api.Write{{Key: key, Val: "x"}}
		l := []api.Txn{
			{Session: 1, Seq: 1, Reads: []api.Read{{Key: key}}, Writes: write},
			{Session: 2, Seq: 1, Reads: []api.Read{{Key: key}}, Writes: write},
			{Session: 3, Seq: 1, Reads: []api.Read{{Key: key, Version: 1}}, Writes: []api.Write{{Key: key, Gone: true}}},
		}
		wantFold(t, l, answer{saidOf("yny"), api.Store{Chains: []api.Chain{{Key: key, L: []api.Version{{Pos: 1, Val: "x"}, {Pos: 3, Gone: true}}}}}, seatsOf("1:1@1 2:1@2 3:1@3")})
	}
}

// TestNumbersAtTheEdges: each two of whatever sessions, and of whatever numbers of one.
func TestNumbersAtTheEdges(t *testing.T) {
	for _, a := range edges() {
		for _, b := range edges() {
			enough(t)
			wantPlain(t, []api.Txn{{Session: a, Seq: 1}, {Session: b, Seq: 1}, {Session: a, Seq: 2}})
			wantPlain(t, []api.Txn{{Session: 1, Seq: a}, {Session: 1, Seq: b}, {Session: 2, Seq: b}})
			wantPlain(t, []api.Txn{{Session: a, Seq: b}, {Session: b, Seq: a}, {Session: a, Seq: b}})
		}
	}
}

// TestVersionsAtTheEdges: whatever version, of a key that was written and of one that was not.
func TestVersionsAtTheEdges(t *testing.T) {
	for _, version := range append(edges(), 3, 4) {
		for _, key := range []string{"a", "b", "c"} {
			l := rowOf("1:1 > a=x b=y; 2:1 > b!")
			wantPlain(t, append(l, api.Txn{Session: 3, Seq: 1, Reads: []api.Read{{Key: key, Version: version}}, Writes: []api.Write{{Key: "d"}}}))
		}
	}
}

// TestWild: whatever is handed in, every call ends, and the same words hold.
func TestWild(t *testing.T) {
	r := rand.New(rand.NewPCG(1, 18))
	for range 20000 {
		enough(t)
		wantPlain(t, wild(r, 12))
	}
}

// TestManyReadsAndWrites: far more of one transaction than there may be.
func TestManyReadsAndWrites(t *testing.T) {
	const many = 1 << 16
	u, w := api.Txn{Session: 1, Seq: 1}, api.Txn{Session: 2, Seq: 1}
	for range many {
		u.Reads = append(u.Reads, api.Read{Key: "a"})
		u.Writes = append(u.Writes, api.Write{Key: "a", Val: "x"})
		w.Reads = append(w.Reads, api.Read{Key: "a", Version: 1})
	}
	wantFold(t, []api.Txn{u, w}, answer{saidOf("yy"), keysOf("a=1x"), seatsOf("1:1@1 2:1@2")})
	w.Reads[many-1].Version = 0
	wantFold(t, []api.Txn{u, w}, answer{saidOf("yn"), keysOf("a=1x"), seatsOf("1:1@1 2:1@2")})
}
