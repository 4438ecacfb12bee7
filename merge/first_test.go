package merge_test

import (
	"math"
	"math/rand/v2"
	"reflect"
	"testing"

	"diwan/api"
	"diwan/merge"
)

// turns makes places of these sessions and numbers.
func turns(l ...[2]int) []api.Place {
	var all []api.Place
	for _, x := range l {
		t := carried('a')
		t.Session, t.Seq = x[0], x[1]
		all = append(all, api.Place{Part: 2, Index: 7, T: t})
	}
	return all
}

func TestFirst(t *testing.T) {
	row := [][2]int{{1, 1}, {2, 1}, {1, 2}, {2, 1}, {9, 1000}, {1, 2}, {1, 2}, {3, 4}}
	for _, x := range []struct {
		l                  [][2]int
		session, seq, want int
	}{
		// of nothing
		{nil, 1, 1, 0},
		{nil, 0, 0, 0},
		{nil, -1, -1, 0},
		// one
		{[][2]int{{1, 1}}, 1, 1, 1},
		{[][2]int{{1, 1}}, 1, 2, 0},
		{[][2]int{{1, 1}}, 2, 1, 0},
		{[][2]int{{1, 1}}, 0, 0, 0},
		// the first, one in the midst, the last
		{row, 1, 1, 1},
		{row, 9, 1000, 5},
		{row, 3, 4, 8},
		// several times: the first one
		{row, 2, 1, 2},
		{row, 1, 2, 3},
		// a session, or a number, that stands nowhere, or not with the other one
		{row, 4, 1, 0},
		{row, 1, 4, 0},
		{row, 3, 1, 0},
		{row, 9, 1, 0},
		{row, 2, 2, 0},
		{row, 4, 3, 0}, // the other way round
		{row, 1000, 9, 0},
		{row, 1, 1000, 0},
		{row, 9, 999, 0},
		{row, 9, 1001, 0},
		// the same number of another session, ahead and behind
		{[][2]int{{1, 5}, {2, 5}, {3, 5}}, 1, 5, 1},
		{[][2]int{{1, 5}, {2, 5}, {3, 5}}, 2, 5, 2},
		{[][2]int{{1, 5}, {2, 5}, {3, 5}}, 3, 5, 3},
		{[][2]int{{1, 5}, {2, 5}, {3, 5}}, 4, 5, 0},
		// other numbers of the same session, greater ones ahead, too
		{[][2]int{{1, 7}, {1, 6}, {1, 5}}, 1, 5, 3},
		{[][2]int{{1, 7}, {1, 6}, {1, 5}}, 1, 7, 1},
		{[][2]int{{1, 7}, {1, 6}, {1, 5}}, 1, 8, 0},
		// those that may not be are asked for by their words
		{[][2]int{{1, 1}, {0, 0}}, 0, 0, 2},
		{[][2]int{{0, 1}, {1, 0}, {0, 0}}, 0, 0, 3},
		{[][2]int{{-1, 1}, {1, -1}}, 1, 1, 0},
		{[][2]int{{-1, 1}, {1, -1}}, 1, -1, 2},
		{[][2]int{{1<<32 + 1, 1}, {1, 1<<32 + 1}, {1, 1}}, 1, 1, 3},
		{[][2]int{{1, 1}}, 1<<32 + 1, 1, 0},
		{[][2]int{{math.MinInt, math.MaxInt}, {math.MaxInt, math.MinInt}}, math.MaxInt, math.MinInt, 2},
	} {
		l := turns(x.l...)
		if got := merge.First(l, x.session, x.seq); got != x.want {
			t.Errorf("First(%v, %d, %d) = %d, want %d", x.l, x.session, x.seq, got, x.want)
		}
		if !reflect.DeepEqual(l, turns(x.l...)) {
			t.Errorf("First(%v, %d, %d): what was handed in is now %v", x.l, x.session, x.seq, l)
		}
	}
}

// TestFirstOfNothing: however nothing is handed in.
func TestFirstOfNothing(t *testing.T) {
	for _, l := range [][]api.Place{nil, {}, make([]api.Place, 0, 3), turns([2]int{1, 1})[:0], turns([2]int{1, 1})[1:]} {
		for _, x := range [][2]int{{0, 0}, {1, 1}} {
			if got := merge.First(l, x[0], x[1]); got != 0 {
				t.Errorf("First of nothing, of %v = %d", x, got)
			}
		}
	}
}

// TestFirstOfAll: all short rows of sessions and numbers, each asked for each.
func TestFirstOfAll(t *testing.T) {
	for _, row := range rows(9, 4) {
		var l []api.Place
		for _, v := range row {
			l = append(l, turns([2]int{v / 3, v % 3})...)
		}
		for v := range 16 {
			if got, want := merge.First(l, v/4, v%4), plainFirst(l, v/4, v%4); got != want {
				t.Fatalf("First(%v, %d, %d) = %d, want %d", row, v/4, v%4, got, want)
			}
		}
	}
}

// TestFirstHeedsNothingElse: where a place is, and what its transaction reads and writes, is nothing to First.
func TestFirstHeedsNothingElse(t *testing.T) {
	for _, p := range []api.Place{{}, {Part: 1, Index: 1}, {Part: -1, Index: 1 << 40}, {T: api.Txn{Reads: make([]api.Read, 9)}}, {T: api.Txn{Writes: make([]api.Write, 9)}}} {
		for at := range 3 {
			l := make([]api.Place, 3)
			for k := range l {
				l[k] = p
				l[k].T.Session, l[k].T.Seq = 1, 1+k
			}
			if got := merge.First(l, 1, 1+at); got != at+1 {
				t.Errorf("First of three like %v, of the %d-th = %d", p, at+1, got)
			}
		}
	}
}

// TestFirstOfAPart: what stands ahead of what is handed in, and behind it, is not looked at.
func TestFirstOfAPart(t *testing.T) {
	l := turns([2]int{1, 1}, [2]int{2, 2}, [2]int{1, 1}, [2]int{3, 3})
	for _, x := range []struct{ from, to, session, want int }{{0, 1, 2, 0}, {1, 3, 1, 2}, {1, 2, 1, 0}, {1, 3, 3, 0}, {3, 4, 3, 1}} {
		if got := merge.First(l[x.from:x.to], x.session, x.session); got != x.want {
			t.Errorf("First of %d to %d, of %d = %d, want %d", x.from, x.to, x.session, got, x.want)
		}
	}
}

// TestFirstOfMany: far more than those of MaxParts logs.
func TestFirstOfMany(t *testing.T) {
	l := make([]api.Place, 1<<18)
	for k := range l {
		l[k].T = api.Txn{Session: 1 + k%9, Seq: 1 + k/9/2}
	}
	for _, k := range []int{0, 1, 8, 18, 100 * 18, (1<<18)/18*18 - 18, (1<<18)/18*18 - 10} {
		if got := merge.First(l, l[k].T.Session, l[k].T.Seq); got != k+1 {
			t.Errorf("First of the %d-th = %d", k+1, got)
		}
	}
	if got := merge.First(l, 10, 1); got != 0 {
		t.Errorf("First of none = %d", got)
	}
}

// TestFirstOfOrders: of what All told, each place's own session and number stand there, or at one ahead.
func TestFirstOfOrders(t *testing.T) {
	r := rand.New(rand.NewPCG(7, 14))
	for range 300 {
		l := merge.All(chances(r, 4, 60))
		for k, p := range l {
			got := merge.First(l, p.T.Session, p.T.Seq)
			if got != plainFirst(l, p.T.Session, p.T.Seq) || got > k+1 || got < 1 {
				t.Fatalf("First of the %d-th of %s = %d", k+1, where(l), got)
			}
		}
	}
	if got := merge.First(merge.All(logsOf("a|B|a,bc|a")), 'a', 1000+'a'); got != 1 {
		t.Errorf("First of a = %d", got)
	}
	if got := merge.First(merge.All(logsOf("b|B|a,bc|a")), 'a', 1000+'a'); got != 4 {
		t.Errorf("First of a = %d", got)
	}
	if got := merge.First(merge.All(logsOf("b|c,bc|d|a")), 'a', 1000+'a'); got != 0 {
		t.Errorf("First of a, which has no place so far = %d", got)
	}
}
