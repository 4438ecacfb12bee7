package seat_test

import (
	"math"
	"math/rand/v2"
	"testing"

	"diwan/api"
	"diwan/seat"
)

func TestTurn(t *testing.T) {
	const long = "2:7@30 3:1@31 5:1000@12 6:4@9 9:2@600"
	for _, x := range []struct {
		l, turn string
		want    string // nothing: no, and as it is
	}{
		// to nothing
		{"", "1:1@1", "1:1@1"},
		{"", "9:1000@600", "9:1000@600"},
		{"", "5:3@1", "5:3@1"},
		// of a session that has no seat: ahead of all others
		{"2:1@1", "1:1@2", "1:1@2 2:1@1"},
		{"9:7@3", "1:1@4", "1:1@4 9:7@3"},
		{long, "1:1@601", "1:1@601 " + long},
		{long, "1:1000@1", "1:1000@1 " + long},
		// between two
		{"1:1@1 3:1@2", "2:1@3", "1:1@1 2:1@3 3:1@2"},
		{long, "4:1@601", "2:7@30 3:1@31 4:1@601 5:1000@12 6:4@9 9:2@600"},
		{long, "4:1000@1", "2:7@30 3:1@31 4:1000@1 5:1000@12 6:4@9 9:2@600"},
		{long, "7:1@8", "2:7@30 3:1@31 5:1000@12 6:4@9 7:1@8 9:2@600"},
		{long, "8:5@9", "2:7@30 3:1@31 5:1000@12 6:4@9 8:5@9 9:2@600"},
		// behind all
		{"1:1@1", "2:1@2", "1:1@1 2:1@2"},
		{"1:7@8", "9:1@2", "1:7@8 9:1@2"},
		{long, "10:1@601", long + " 10:1@601"},
		{long, "4294967298:1@601", long + " 4294967298:1@601"},
		// of a session whose seat has a lesser number
		{"1:1@1", "1:2@2", "1:2@2"},
		{"1:1@1", "1:1000@600", "1:1000@600"},
		{"1:999@7", "1:1000@8", "1:1000@8"},
		{long, "2:8@601", "2:8@601 3:1@31 5:1000@12 6:4@9 9:2@600"},
		{long, "3:2@601", "2:7@30 3:2@601 5:1000@12 6:4@9 9:2@600"},
		{long, "5:1001@601", "2:7@30 3:1@31 5:1001@601 6:4@9 9:2@600"},
		{long, "6:9@601", "2:7@30 3:1@31 5:1000@12 6:9@601 9:2@600"},
		{long, "9:3@601", "2:7@30 3:1@31 5:1000@12 6:4@9 9:3@601"},
		// at a position that is not above the one that it had
		{"1:1@5", "1:2@5", "1:2@5"},
		{"1:1@5", "1:2@4", "1:2@4"},
		{"1:1@5", "1:2@0", "1:2@0"},
		{"1:1@5", "1:2@-7", "1:2@-7"},
		{long, "9:3@1", "2:7@30 3:1@31 5:1000@12 6:4@9 9:3@1"},
		{long, "2:8@29", "2:8@29 3:1@31 5:1000@12 6:4@9 9:2@600"},
		// at one that another one has, too
		{long, "2:8@31", "2:8@31 3:1@31 5:1000@12 6:4@9 9:2@600"},
		// of the same number: also at another position
		{"1:1@1", "1:1@1", ""},
		{"1:1@1", "1:1@2", ""},
		{"1:5@9", "1:5@8", ""},
		{"1:5@9", "1:5@600", ""},
		{long, "2:7@30", ""},
		{long, "2:7@601", ""},
		{long, "3:1@601", ""},
		{long, "5:1000@601", ""},
		{long, "6:4@1", ""},
		{long, "9:2@601", ""},
		// of a lesser one than its seat has
		{"1:2@1", "1:1@2", ""},
		{"1:1000@1", "1:999@2", ""},
		{"1:1000@1", "1:1@2", ""},
		{long, "2:6@601", ""},
		{long, "2:1@601", ""},
		{long, "5:999@601", ""},
		{long, "6:3@601", ""},
		{long, "9:1@601", ""},
		{long, "9:0@601", ""},
		{long, "9:-2@601", ""},
		// what another session's seat says, is nothing to it
		{"1:5@5 3:5@6", "2:5@5", "1:5@5 2:5@5 3:5@6"},
		{"1:1@1 2:9@2", "1:9@2", "1:9@2 2:9@2"},
		{"1:9@1 2:1@2", "2:2@1", "1:9@1 2:2@1"},
		// from 0 downwards, and of more than 32 bits
		{"", "0:0@0", "0:0@0"},
		{"", "-1:-1@-1", "-1:-1@-1"},
		{"1:1@1", "0:0@0", "0:0@0 1:1@1"},
		{"0:0@0", "0:0@0", ""},
		{"0:0@0", "0:0@1", ""},
		{"0:0@0", "0:-1@1", ""},
		{"0:0@0", "0:1@1", "0:1@1"},
		{"0:-2@0", "0:-1@-5", "0:-1@-5"},
		{"-3:1@1 0:1@1 3:1@1", "-1:1@1", "-3:1@1 -1:1@1 0:1@1 3:1@1"},
		{"-3:1@1 0:1@1 3:1@1", "-3:2@2", "-3:2@2 0:1@1 3:1@1"},
		{"-3:1@1 0:1@1 3:1@1", "-4:1@1", "-4:1@1 -3:1@1 0:1@1 3:1@1"},
		{"1:4294967296@1", "1:4294967297@2", "1:4294967297@2"},
		{"1:4294967296@1", "1:1@2", ""},
		{"1:2@1", "1:4294967296@2", "1:4294967296@2"},
		{"1:2@1", "1:4294967296@4294967298", "1:4294967296@4294967298"},
		{"2:1@1 4294967297:1@1", "1:1@1", "1:1@1 2:1@1 4294967297:1@1"},
		{"4294967297:1@1", "1:1@1", "1:1@1 4294967297:1@1"},
		{"1:-9223372036854775808@1", "1:9223372036854775807@2", "1:9223372036854775807@2"},
		{"1:9223372036854775807@1", "1:-9223372036854775808@2", ""},
		{"9223372036854775807:1@1", "-9223372036854775808:1@1", "-9223372036854775808:1@1 9223372036854775807:1@1"},
		{"-9223372036854775808:1@1", "9223372036854775807:1@1", "-9223372036854775808:1@1 9223372036854775807:1@1"},
		// in lists that do not rise, too: its seat is the one that Find tells
		{"9:1@1 3:2@2 5:3@3", "3:3@4", "9:1@1 3:3@4 5:3@3"},
		{"9:1@1 3:2@2 5:3@3", "3:2@4", ""},
		{"9:1@1 3:2@2 5:3@3", "5:3@4", ""},
		{"9:1@1 3:2@2 5:3@3", "5:4@4", "9:1@1 3:2@2 5:4@4"},
		{"3:2@2 3:9@1", "3:2@5", ""},
		{"3:9@1 3:2@2", "3:3@5", ""},
		{"3:2@2 3:9@1", "3:3@5", "3:3@5 3:9@1"},
	} {
		l, turn := seatsOf(x.l), seatOf(x.turn)
		want, ok := seatsOf(x.want), x.want != ""
		if !ok {
			want = seatsOf(x.l)
		}
		wantTurn(t, l, turn.Session, turn.Seq, turn.Pos, want, ok)
		if !rises(l) {
			continue
		}
		if got, is := plainTurn(l, turn.Session, turn.Seq, turn.Pos); !plainSame(got, want) || is != ok {
			t.Errorf("plainTurn(%s, %s) = %v, %v", x.l, x.turn, got, is)
		}
	}
}

// TestTurnToNothing: however nothing is handed in, each turn is had.
func TestTurnToNothing(t *testing.T) {
	for _, l := range nothings() {
		for _, session := range edges() {
			for _, seq := range edges() {
				for _, pos := range edges() {
					wantTurn(t, l, session, seq, pos, []api.Seat{{Session: session, Seq: seq, Pos: pos}}, true)
				}
			}
		}
	}
}

// TestTurnToAll: to all sets of the nine sessions, each one of them, and what is beside them, with each number up to beyond the seat's.
func TestTurnToAll(t *testing.T) {
	for set := range 1 << api.MaxSession {
		enough(t)
		l := rowOf(set)
		for session := -1; session <= api.MaxSession+2; session++ {
			for seq := range 6 {
				wantPlain(t, l, session, seq, seq*5)
			}
		}
	}
}

// TestTurnAtTheEdges: to one seat, of whatever numbers.
func TestTurnAtTheEdges(t *testing.T) {
	for _, session := range edges() {
		for _, had := range edges() {
			l := []api.Seat{{Session: session, Seq: had, Pos: 5}}
			for _, seq := range edges() {
				for _, pos := range edges() {
					wantPlain(t, l, session, seq, pos)
				}
				for _, other := range edges() {
					wantPlain(t, l, other, seq, 3)
				}
			}
		}
	}
}

// TestTurnByChance: to lists that rise; they rise behind it, too.
func TestTurnByChance(t *testing.T) {
	r := rand.New(rand.NewPCG(3, 17))
	for range 20000 {
		enough(t)
		l := seatsByChance(r, 14)
		session, seq, pos := r.IntN(18)-1, r.IntN(9)-1, r.IntN(50)-3
		wantPlain(t, l, session, seq, pos)
		if got, _ := seat.Turn(l, session, seq, pos); !rises(got) {
			t.Errorf("Turn(%v, %d, %d, %d) = %v", l, session, seq, pos, got)
		}
	}
}

// TestTurnToWhatever: lists that do not rise. All calls end; a yes gives the seat, and leaves all others in their order, a no leaves all.
func TestTurnToWhatever(t *testing.T) {
	r := rand.New(rand.NewPCG(4, 17))
	for range 20000 {
		enough(t)
		l := wild(r, 8)
		session, seq, pos := r.IntN(13)-3, r.IntN(9)-3, r.IntN(9)-3
		had, has := plainFind(l, session)
		got, ok := seat.Turn(l, session, seq, pos)
		if ok != (!has || had.Seq < seq) {
			t.Errorf("Turn(%v, %d, %d, %d) = %v, %v", l, session, seq, pos, got, ok)
		}
		if !ok {
			wantTurn(t, l, session, seq, pos, l, false)
			continue
		}
		wantFind(t, got, session, api.Seat{Session: session, Seq: seq, Pos: pos}, true)
		if !plainSame(without(got, session), without(l, session)) {
			t.Errorf("Turn(%v, %d, %d, %d) = %v, %v", l, session, seq, pos, got, ok)
		}
	}
}

// without tells l but for the first seat of session.
func without(l []api.Seat, session int) []api.Seat {
	var rest []api.Seat
	gone := false
	for _, s := range l {
		if s.Session == session && !gone {
			gone = true
			continue
		}
		rest = append(rest, s)
	}
	return rest
}

// TestTurnToMany: far more sessions than there may be.
func TestTurnToMany(t *testing.T) {
	const many = 1 << 14
	l := rising(many)
	for k := 0; k < many; k += 1000 {
		enough(t)
		s := l[k]
		for _, session := range []int{s.Session - 1, s.Session, s.Session + 1} {
			wantPlain(t, l, session, s.Seq-1, 7)
			wantPlain(t, l, session, s.Seq, 7)
			wantPlain(t, l, session, s.Seq+1, 7)
		}
	}
	wantPlain(t, l, 2*many+2, 1, 7)
	wantPlain(t, l, math.MinInt, 1, 7)
}

// TestTurnToAPart: what stands ahead of what is handed in, and behind it, is not looked at.
func TestTurnToAPart(t *testing.T) {
	l := seatsOf("1:2@3 3:4@5 4:6@7 6:8@9 8:1@2")
	for from := range len(l) + 1 {
		for to := from; to <= len(l); to++ {
			for session := range 10 {
				for seq := range 10 {
					want, ok := plainTurn(clone(l[from:to]), session, seq, 11)
					wantTurn(t, l[from:to], session, seq, 11, want, ok)
				}
			}
		}
	}
}
