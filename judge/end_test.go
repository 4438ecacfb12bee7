package judge_test

import (
	"strconv"
	"testing"

	"diwan/api"
)

// TestPositions: the i-th is at position i, whatever was said of those ahead of it.
func TestPositions(t *testing.T) {
	for _, x := range []byHand{
		{"1:1 > a=x; 1:2 > a=y; 1:3 > a=z", "yyy", "a=1x,2y,3z", "1:3@3"},
		{"1:1 a@9; 2:1 > a=x", "ny", "a=2x", "1:1@1 2:1@2"},
		{"1:1; 1:1; 2:1 > a=x", "yty", "a=3x", "1:1@1 2:1@3"},
		{"1:1 a@9; 1:1; 1:1; 2:1 a@9; 3:1 > a=x; 3:1; 4:1 a@5 > b=y", "nttnyty", "a=5x b=7y", "1:1@1 2:1@4 3:1@5 4:1@7"},
		{"1:1; 2:1; 3:1; 4:1 > a=x; 5:1 a@4; 6:1 a@1", "yyyyyn", "a=4x", "1:1@1 2:1@2 3:1@3 4:1@4 5:1@5 6:1@6"},
		// a seat stays at the position of its number's first one
		{"1:1; 2:1; 1:1; 2:1; 1:1", "yyttt", "", "1:1@1 2:1@2"},
		{"1:1 a@9; 2:1; 1:1; 2:1; 1:2", "nytty", "", "1:2@5 2:1@2"},
	} {
		x.hold(t)
	}
}

// TestPositionsBehindAll: behind each row of four verdicts, each is at its own position, and so is one that comes behind them.
func TestPositionsBehindAll(t *testing.T) {
	for k := range 81 {
		l, want := rowOf("8:1"), answer{said: saidOf("y")}
		for pos, rest := 2, k; pos <= 5; pos, rest = pos+1, rest/3 {
			u := api.Txn{Session: pos, Seq: 1}
			switch rest % 3 {
			case 0:
				want.said = append(want.said, api.Yes)
			case 1:
				u.Reads = []api.Read{{Key: "a", Version: 9}}
				want.said = append(want.said, api.No)
			case 2:
				u = l[0]
				want.said = append(want.said, api.Twice)
			}
			if rest%3 < 2 {
				want.seats = append(want.seats, api.Seat{Session: pos, Seq: 1, Pos: pos})
			}
			l = append(l, u)
		}
		l = append(l, txnOf("9:1 > a=x"))
		want.said, want.keys, want.seats = append(want.said, api.Yes), keysOf("a=6x"), append(want.seats, seatsOf("8:1@1 9:1@6")...)
		wantFold(t, l, want)
	}
}

func TestWrites(t *testing.T) {
	for _, x := range []byHand{
		// several keys at once, and all at one position
		{"1:1; 2:1 > a=x b=y c=z d!", "yy", "a=2x b=2y c=2z d=2!", "1:1@1 2:1@2"},
		{"1:1 > a=x b=y c=z; 2:1 a@1 b@1 c@1", "yy", "a=1x b=1y c=1z", "1:1@1 2:1@2"},
		{"1:1 > a=x b=y c=z; 2:1 > b=u; 3:1 a@1 b@2 c@1", "yyy", "a=1x b=1y,2u c=1z", "1:1@1 2:1@2 3:1@3"},
		// a key that is written again
		{"1:1 > a=x; 2:1 a@1 > a=x; 3:1 a@1 > a=z; 4:1 a@2 > a=z", "yyny", "a=1x,2x,4z", "1:1@1 2:1@2 3:1@3 4:1@4"},
		{"1:1 > a=x; 2:1 a@1; 3:1 > a=x; 4:1 a@1; 5:1 a@3", "yyyny", "a=1x,3x", "1:1@1 2:1@2 3:1@3 4:1@4 5:1@5"}, // to what it was: another version
		{"1:1 > a=x; 2:1 > a=y; 1:2 a@2 > a=z b=z; 2:2 a@3 b@3 > a!", "yyyy", "a=1x,2y,3z,4! b=3z", "1:2@3 2:2@4"},
		// one that is Gone
		{"1:1 > a=x; 2:1 a@1=x > a!; 3:1 a@2 > a=z", "yyy", "a=1x,2!,3z", "1:1@1 2:1@2 3:1@3"},
		{"1:1 > a=x; 2:1 > a!; 3:1 a@0 > a=z", "yyn", "a=1x,2!", "1:1@1 2:1@2 3:1@3"}, // not as one that never was
		{"1:1 > a=x; 2:1 > a!; 3:1 a@1 > a=z", "yyn", "a=1x,2!", "1:1@1 2:1@2 3:1@3"},
		{"1:1 > a!; 2:1 a@0; 3:1 a@1", "yny", "a=1!", "1:1@1 2:1@2 3:1@3"}, // that never was
		{"1:1 > a!; 2:1 > a!; 3:1 a@1; 4:1 a@2", "yyny", "a=1!,2!", "1:1@1 2:1@2 3:1@3 4:1@4"},
		// one that is to be nothing is not Gone
		{"1:1 > a=; 2:1 a@1= > a=", "yy", "a=1,2", "1:1@1 2:1@2"},
		// keys rise, in whatever order they come
		{"1:1 > d=x; 2:1 > b=x; 3:1 > c=x; 4:1 > a=x", "yyyy", "a=4x b=2x c=3x d=1x", "1:1@1 2:1@2 3:1@3 4:1@4"},
		{"1:1 > b=x d=x; 2:1 > a=y c=y e=y", "yy", "a=2y b=1x c=2y d=1x e=2y", "1:1@1 2:1@2"},
		{"1:1 > a=x ab=x; 2:1 > B=y aa=y b=y ~=y", "yy", "B=2y a=1x aa=2y ab=1x b=2y ~=2y", "1:1@1 2:1@2"}, // by bytes
		// seats rise, too
		{"9:1; 3:1; 5:1; 1:1; 3:2", "yyyyy", "", "1:1@4 3:2@5 5:1@3 9:1@1"},
	} {
		x.hold(t)
	}
}

// TestAllShards: keys of all shards stand in one store, and one transaction may read and write all of them.
func TestAllShards(t *testing.T) {
	byHand{"1:1 > a=s b=t c=u d=v; 2:1 a@1 b@1 c@1 d@1 > a=w b=x c=y; 3:1 a@2 b@2 c@2 d@1; 4:1 a@2 b@2 c@2 d@2", "yyyn",
		"a=1s,2w b=1t,2x c=1u,2y d=1v", "1:1@1 2:1@2 3:1@3 4:1@4"}.hold(t)
}

// TestBump: many that read one key and write it, two at a time: of each two one is Yes.
func TestBump(t *testing.T) {
	var l []api.Txn
	var want answer
	c := api.Chain{Key: "n"}
	last := 0
	for k := range 100 {
		for session := 1; session <= 2; session++ {
			l = append(l, api.Txn{Session: session, Seq: k + 1, Reads: []api.Read{{Key: "n", Version: last}}, Writes: []api.Write{{Key: "n", Val: strconv.Itoa(10*k + session)}}})
		}
		last = 2*k + 1
		c.L = append(c.L, api.Version{Pos: last, Val: strconv.Itoa(10*k + 1)})
		want.said = append(want.said, api.Yes, api.No)
	}
	want.keys.Chains = []api.Chain{c}
	want.seats = seatsOf("1:100@199 2:100@200")
	wantFold(t, l, want)
	wantEnd(t, l)
}

// TestOfMany: as many as all logs have entries, each of all that it may read and write.
func TestOfMany(t *testing.T) {
	const many = api.MaxParts * api.MaxLog
	var l []api.Txn
	var said []int
	for k := range many {
		u := api.Txn{Session: k%api.MaxSession + 1, Seq: k/api.MaxSession + 1}
		for i := range api.MaxReads {
			key := "k" + strconv.Itoa((k/7*3+i)%50+10)
			u.Reads = append(u.Reads, api.Read{Key: key, Version: plainLast(l, said, key)})
			if i < api.MaxWrites {
				u.Writes = append(u.Writes, api.Write{Key: key, Val: strconv.Itoa(k)})
			}
		}
		if k%5 == 4 {
			u.Reads[k%api.MaxReads].Version++
		}
		said = append(said, plainVerdict(l, said, u))
		l = append(l, u)
	}
	wantPlain(t, l)
	wantEnd(t, l)
}

// TestOfFarMore: far more than there may be, each of a session and a key of its own.
func TestOfFarMore(t *testing.T) {
	const many = 1000
	l := make([]api.Txn, many)
	var want answer
	for k := range l {
		key := "k" + strconv.Itoa(10000+k)
		l[many-1-k] = api.Txn{Session: many - k, Seq: 1, Reads: []api.Read{{Key: key}}, Writes: []api.Write{{Key: key, Val: "x"}}}
		want.said = append(want.said, api.Yes)
		want.keys.Chains = append(want.keys.Chains, api.Chain{Key: key, L: []api.Version{{Pos: many - k, Val: "x"}}})
		want.seats = append(want.seats, api.Seat{Session: k + 1, Seq: 1, Pos: k + 1})
	}
	wantFold(t, l, want)
	wantEnd(t, l)
}
