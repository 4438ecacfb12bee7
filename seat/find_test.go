package seat_test

import (
	"math"
	"math/rand/v2"
	"testing"

	"diwan/api"
	"diwan/seat"
)

func TestFind(t *testing.T) {
	const long = "2:7@30 3:1@31 5:1000@12 6:4@9 9:2@600"
	for _, x := range []struct {
		l       string
		session int
		want    string // nothing: no
	}{
		// in nothing
		{"", 1, ""},
		{"", 0, ""},
		{"", -1, ""},
		{"", 9, ""},
		{"", math.MaxInt, ""},
		{"", math.MinInt, ""},
		// in one
		{"3:1@1", 3, "3:1@1"},
		{"3:1@1", 2, ""},
		{"3:1@1", 4, ""},
		{"3:1@1", 1, ""}, // its number and its position are no session
		{"3:4@5", 4, ""},
		{"3:4@5", 5, ""},
		// of a session that has none: ahead of all
		{long, 1, ""},
		{long, 0, ""},
		{long, -2, ""},
		{long, math.MinInt, ""},
		// between two
		{long, 4, ""},
		{long, 7, ""},
		{long, 8, ""},
		// behind all
		{long, 10, ""},
		{long, 12, ""},
		{long, 600, ""},
		{long, 4294967298, ""},
		{long, math.MaxInt, ""},
		// the first one's
		{long, 2, "2:7@30"},
		// one between
		{long, 3, "3:1@31"},
		{long, 5, "5:1000@12"},
		{long, 6, "6:4@9"},
		// the last one's
		{long, 9, "9:2@600"},
		// of all sessions that a client may have
		{"1:1@1 2:2@2 3:3@3 4:4@4 5:5@5 6:6@6 7:7@7 8:8@8 9:9@9", 1, "1:1@1"},
		{"1:1@1 2:2@2 3:3@3 4:4@4 5:5@5 6:6@6 7:7@7 8:8@8 9:9@9", 9, "9:9@9"},
		// of a seat that is all zero
		{"0:0@0", 0, "0:0@0"},
		{"0:0@0", 1, ""},
		{"1:0@0", 0, ""},
		{"1:0@0", 1, "1:0@0"},
		// of sessions from 0 downwards, and of more than 32 bits
		{"-5:1@2 -3:-7@-9 0:2@0", -3, "-3:-7@-9"},
		{"-5:1@2 -3:-7@-9 0:2@0", -4, ""},
		{"-5:1@2 -3:-7@-9 0:2@0", 0, "0:2@0"},
		{"-5:1@2 -3:-7@-9 0:2@0", 3, ""},
		{"1:2@3 4294967297:4@5", 1, "1:2@3"},
		{"1:2@3 4294967297:4@5", 4294967297, "4294967297:4@5"},
		{"4294967297:4@5", 1, ""},
		{"-9223372036854775808:1@1 9223372036854775807:2@2", math.MinInt, "-9223372036854775808:1@1"},
		{"-9223372036854775808:1@1 9223372036854775807:2@2", math.MaxInt, "9223372036854775807:2@2"},
		{"-9223372036854775808:1@1 9223372036854775807:2@2", -1, ""},
		// in lists that do not rise, too: its own, wherever it stands; of several the first one
		{"9:1@1 3:2@2 5:3@3", 3, "3:2@2"},
		{"9:1@1 3:2@2 5:3@3", 5, "5:3@3"},
		{"9:1@1 3:2@2 5:3@3", 9, "9:1@1"},
		{"9:1@1 3:2@2 5:3@3", 4, ""},
		{"3:2@2 3:9@1", 3, "3:2@2"},
		{"3:9@1 3:2@2", 3, "3:9@1"},
		{"4:1@1 3:9@1 1:1@1 3:2@2", 3, "3:9@1"},
	} {
		l := seatsOf(x.l)
		var want api.Seat
		if x.want != "" {
			want = seatOf(x.want)
		}
		wantFind(t, l, x.session, want, x.want != "")
		if got, ok := plainFind(l, x.session); got != want || ok != (x.want != "") {
			t.Errorf("plainFind(%s, %d) = %v, %v", x.l, x.session, got, ok)
		}
	}
}

// TestFindInNothing: however nothing is handed in.
func TestFindInNothing(t *testing.T) {
	for _, l := range nothings() {
		for _, session := range edges() {
			wantFind(t, l, session, api.Seat{}, false)
		}
	}
}

// TestFindInAll: of all sets of the nine sessions, each one of them, and what is beside them.
func TestFindInAll(t *testing.T) {
	for set := range 1 << api.MaxSession {
		enough(t)
		l := rowOf(set)
		for session := -1; session <= api.MaxSession+2; session++ {
			want, ok := plainFind(l, session)
			wantFind(t, l, session, want, ok)
			if has := session > 0 && set>>(session-1)&1 == 1; has != ok {
				t.Errorf("plainFind(%v, %d) = %v, %v", l, session, want, ok)
			}
		}
	}
}

// TestFindAtTheEdges: each of two, of whatever sessions.
func TestFindAtTheEdges(t *testing.T) {
	for _, a := range edges() {
		for _, b := range edges() {
			l := []api.Seat{{Session: a, Seq: 1, Pos: 2}, {Session: b, Seq: 3, Pos: 4}}
			for _, session := range edges() {
				want, ok := plainFind(l, session)
				wantFind(t, l, session, want, ok)
			}
		}
	}
}

// TestFindByChance: in lists that rise, and in ones that do not.
func TestFindByChance(t *testing.T) {
	r := rand.New(rand.NewPCG(1, 17))
	for k := range 5000 {
		enough(t)
		l := seatsByChance(r, 20)
		if k%2 == 0 {
			l = wild(r, 12)
		}
		for session := -3; session <= 22; session++ {
			want, ok := plainFind(l, session)
			wantFind(t, l, session, want, ok)
		}
	}
}

// TestFindInMany: far more sessions than there may be, each of which has its own.
func TestFindInMany(t *testing.T) {
	const many = 1 << 16
	l := rising(many)
	for k := 0; k < many; k += 997 {
		enough(t)
		wantFind(t, l, l[k].Session, l[k], true)
		wantFind(t, l, l[k].Session+1, api.Seat{}, false)
	}
	wantFind(t, l, l[many-1].Session, l[many-1], true)
	wantFind(t, l, 1, api.Seat{}, false)
}

// TestFindInAPart: what stands ahead of what is handed in, and behind it, is not looked at.
func TestFindInAPart(t *testing.T) {
	l := seatsOf("1:2@3 3:4@5 4:6@7 6:8@9 8:1@2")
	for from := range len(l) + 1 {
		for to := from; to <= len(l); to++ {
			for session := range 10 {
				want, ok := plainFind(clone(l[from:to]), session)
				wantFind(t, l[from:to], session, want, ok)
			}
		}
	}
}

// TestFindBehindTurn: it tells the seat that Turn gave, and of all others what it told before.
func TestFindBehindTurn(t *testing.T) {
	r := rand.New(rand.NewPCG(2, 17))
	for k := range 3000 {
		enough(t)
		l := seatsByChance(r, 12)
		if k%4 == 0 {
			l = wild(r, 12)
		}
		session, seq, pos := r.IntN(14), r.IntN(8), r.IntN(50)
		next, ok := seat.Turn(l, session, seq, pos)
		for other := -3; other <= 16; other++ {
			want, has := seat.Find(l, other)
			if other == session && ok {
				want, has = api.Seat{Session: session, Seq: seq, Pos: pos}, true
			}
			wantFind(t, next, other, want, has)
		}
	}
}
