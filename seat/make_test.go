package seat_test

import (
	"fmt"
	"math"
	"math/rand/v2"
	"slices"
	"strconv"
	"strings"
	"testing"

	"diwan/api"
	"diwan/seat"
)

// seatOf reads a seat: "2:7@30" is session 2's, of its turn 7, at position 30.
func seatOf(s string) api.Seat {
	session, rest, _ := strings.Cut(s, ":")
	seq, pos, _ := strings.Cut(rest, "@")
	var n [3]int
	for k, x := range []string{session, seq, pos} {
		v, err := strconv.Atoi(x)
		if err != nil {
			panic(err)
		}
		n[k] = v
	}
	return api.Seat{Session: n[0], Seq: n[1], Pos: n[2]}
}

// seatsOf reads seats, with a space between one and the next.
func seatsOf(s string) []api.Seat {
	var l []api.Seat
	for _, f := range strings.Fields(s) {
		l = append(l, seatOf(f))
	}
	return l
}

// short is v as a text, cut off where it is too long to be read.
func short(v any) string {
	return fmt.Sprintf("%.300s", fmt.Sprint(v))
}

// clone is a list of its own; of no items it is nil.
func clone[T any](l []T) []T {
	return append([]T(nil), l...)
}

// enough ends a test of very many cases at the first one that fails.
func enough(t *testing.T) {
	t.Helper()
	if t.Failed() {
		t.FailNow()
	}
}

// plainFind is P17.1's word on Find, from behind: what stands ahead of another one of its session is told.
func plainFind(l []api.Seat, session int) (api.Seat, bool) {
	var its api.Seat
	has := false
	for k := range l {
		if s := l[len(l)-1-k]; s.Session == session {
			its, has = s, true
		}
	}
	return its, has
}

// plainTurn is P17.1's word on Turn, for seats that rise by session: one anew from those of all sessions.
func plainTurn(l []api.Seat, session, seq, pos int) ([]api.Seat, bool) {
	its := map[int]api.Seat{}
	all := []int{session}
	for _, s := range l {
		its[s.Session] = s
		all = append(all, s.Session)
	}
	if s, has := its[session]; has && !(s.Seq < seq) {
		return clone(l), false
	}
	its[session] = api.Seat{Session: session, Seq: seq, Pos: pos}
	slices.Sort(all)
	var told []api.Seat
	for _, id := range slices.Compact(all) {
		told = append(told, its[id])
	}
	return told, true
}

// plainSame is P17.1's word on Same.
func plainSame(a, b []api.Seat) bool {
	if len(a) != len(b) {
		return false
	}
	for k := range a {
		if a[k].Session != b[k].Session || a[k].Seq != b[k].Seq || a[k].Pos != b[k].Pos {
			return false
		}
	}
	return true
}

func wantFind(t *testing.T, l []api.Seat, session int, want api.Seat, ok bool) {
	t.Helper()
	if got, is := seat.Find(l, session); got != want || is != ok {
		t.Errorf("Find(%s, %d) = %v, %v, want %v, %v", short(l), session, got, is, want, ok)
	}
}

func wantTurn(t *testing.T, l []api.Seat, session, seq, pos int, want []api.Seat, ok bool) {
	t.Helper()
	if got, is := seat.Turn(l, session, seq, pos); !plainSame(got, want) || is != ok {
		t.Errorf("Turn(%s, %d, %d, %d) = %s, %v, want %s, %v", short(l), session, seq, pos, short(got), is, short(want), ok)
	}
}

func wantSame(t *testing.T, a, b []api.Seat, want bool) {
	t.Helper()
	if seat.Same(a, b) != want || seat.Same(b, a) != want {
		t.Errorf("Same(%s, %s) = %v, the other way round %v, want %v", short(a), short(b), seat.Same(a, b), seat.Same(b, a), want)
	}
}

// wantPlain holds all calls of l, whose seats rise, to the words of P17.1.
func wantPlain(t *testing.T, l []api.Seat, session, seq, pos int) {
	t.Helper()
	its, has := plainFind(l, session)
	wantFind(t, l, session, its, has)
	all, ok := plainTurn(l, session, seq, pos)
	wantTurn(t, l, session, seq, pos, all, ok)
	wantSame(t, l, all, plainSame(l, all))
}

// rises tells whether each of l is of a greater session than the one ahead of it.
func rises(l []api.Seat) bool {
	for k := 1; k < len(l); k++ {
		if l[k-1].Session >= l[k].Session {
			return false
		}
	}
	return true
}

// nothings are lists of no seats, however they come to be.
func nothings() [][]api.Seat {
	return [][]api.Seat{nil, {}, make([]api.Seat, 0, 3), seatsOf("1:2@3 2:1@4")[:0], seatsOf("1:2@3 2:1@4")[2:], seatsOf("1:2@3 2:1@4")[1:1]}
}

// edges are numbers at which one may go wrong.
func edges() []int {
	return []int{math.MinInt, math.MinInt + 1, -1 << 32, -1, 0, 1, 2, 1 << 32, 1<<32 + 1, math.MaxInt - 1, math.MaxInt}
}

// rising makes many seats, the k-th of session 2k+2, of turn k%1000+1, at position 3k+1.
func rising(many int) []api.Seat {
	l := make([]api.Seat, many)
	for k := range l {
		l[k] = api.Seat{Session: 2*k + 2, Seq: k%1000 + 1, Pos: 3*k + 1}
	}
	return l
}

// rowOf makes the seats of the sessions of a set by bits (bit 0 is session 1), no two alike.
func rowOf(set int) []api.Seat {
	var l []api.Seat
	for k := 0; set>>k > 0; k++ {
		if set>>k&1 == 1 {
			l = append(l, api.Seat{Session: k + 1, Seq: 2 + k%3, Pos: 10 + 7*k%5})
		}
	}
	return l
}

// seatsByChance makes seats that rise, of some of the sessions from 1 to n.
func seatsByChance(r *rand.Rand, n int) []api.Seat {
	var l []api.Seat
	for session := 1; session <= n; session++ {
		if r.IntN(3) > 0 {
			l = append(l, api.Seat{Session: session, Seq: 1 + r.IntN(6), Pos: 1 + r.IntN(40)})
		}
	}
	return l
}

// wild makes up to n seats in any order, of sessions that may stand there twice, with whatever in them.
func wild(r *rand.Rand, n int) []api.Seat {
	l := make([]api.Seat, r.IntN(n+1))
	for k := range l {
		l[k] = api.Seat{Session: r.IntN(n+3) - 2, Seq: r.IntN(7) - 2, Pos: r.IntN(9) - 3}
	}
	return l
}
