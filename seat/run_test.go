package seat_test

import (
	"math/rand/v2"
	"testing"

	"diwan/api"
	"diwan/seat"
)

// TestExample: Turn twice: yes, no.
func TestExample(t *testing.T) {
	l, ok := seat.Turn(nil, 1, 1, 1)
	if !ok {
		t.Error("Turn: no")
	}
	if l, ok = seat.Turn(l, 1, 1, 2); ok {
		t.Error("Turn once more: yes")
	}
	if !seat.Same(l, seatsOf("1:1@1")) {
		t.Errorf("behind both: %v", l)
	}
}

// TestANumberHasOneTurn: however many turns of other sessions come in between, and whatever that session has later.
func TestANumberHasOneTurn(t *testing.T) {
	r := rand.New(rand.NewPCG(6, 17))
	for range 300 {
		enough(t)
		type number struct{ session, seq int }
		had := map[number]int{}
		greatest := map[int]int{}
		var l []api.Seat
		for pos := 1; pos <= 200; pos++ {
			n := number{1 + r.IntN(api.MaxSession), 1 + r.IntN(40)}
			next, ok := seat.Turn(l, n.session, n.seq, pos)
			if ok {
				had[n]++
			}
			if had[n] > 1 || ok != (n.seq > greatest[n.session]) {
				t.Errorf("Turn(%v, %d, %d, %d) = %v, %v", l, n.session, n.seq, pos, next, ok)
			}
			greatest[n.session] = max(greatest[n.session], n.seq)
			if !rises(next) || !ok && !seat.Same(next, l) {
				t.Errorf("Turn(%v, %d, %d, %d) = %v, %v", l, n.session, n.seq, pos, next, ok)
			}
			l = next
		}
	}
}

// TestTwiceWithOthersBetween: yes, and then no, with its first position, wherever the turns of all other sessions come.
func TestTwiceWithOthersBetween(t *testing.T) {
	for session := 1; session <= api.MaxSession; session++ {
		l, ok := seat.Turn(nil, session, 5, 1)
		if !ok {
			t.Errorf("Turn(nil, %d, 5, 1): no", session)
		}
		for pos := 2; pos < 100; pos++ {
			if other := 1 + pos%api.MaxSession; other != session {
				l, _ = seat.Turn(l, other, pos, pos)
			}
			wantTurn(t, l, session, 5, pos, l, false)
			wantTurn(t, l, session, 4, pos, l, false)
			wantFind(t, l, session, api.Seat{Session: session, Seq: 5, Pos: 1}, true)
		}
		if _, ok = seat.Turn(l, session, 6, 100); !ok {
			t.Errorf("Turn(%v, %d, 6, 100): no", l, session)
		}
	}
}

// TestAnyOrder: turns of one number of each session tell one list, in whatever order they come.
func TestAnyOrder(t *testing.T) {
	r := rand.New(rand.NewPCG(7, 17))
	for range 500 {
		enough(t)
		all := seatsByChance(r, 20)
		var l []api.Seat
		for _, k := range r.Perm(len(all)) {
			l, _ = seat.Turn(l, all[k].Session, all[k].Seq, all[k].Pos)
		}
		wantSame(t, l, all, true)
	}
}

// FuzzRun holds all calls to the words of P17.1, behind each turn of three bytes.
func FuzzRun(f *testing.F) {
	for _, x := range []string{"", "abc", "abcabc", "abcabdacc", "zyxwvutsrqponml", "\x00\x01\x01\x02\x06\x03\x00\x05\x00", "\x09\x01\x01\x09\xff\x03\x09\x05\x00"} {
		f.Add(x, 0, 0, 0)
		f.Add(x, 9, 1, 1)
		f.Add(x, -1, 1<<40, -1)
	}
	f.Fuzz(func(t *testing.T, x string, session, seq, pos int) {
		var l []api.Seat
		for k := 0; k+2 < min(len(x), 300); k += 3 {
			a, b, c := int(int8(x[k])), int(x[k+1]), int(x[k+2])
			wantPlain(t, l, a, b, c)
			l, _ = seat.Turn(l, a, b, c)
			wantPlain(t, l, session, seq, pos)
			if !rises(l) {
				t.Fatalf("behind turn %d: %v", k/3, l)
			}
		}
		wantPlain(t, l, session%10, seq%300, pos)
	})
}
