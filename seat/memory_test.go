package seat_test

import (
	"testing"

	"diwan/api"
	"diwan/seat"
)

// asked are lists of each kind.
func asked() []string {
	return []string{"", "3:2@5", "0:0@0", "1:2@3 4:5@6", "2:7@30 3:1@31 5:4@12 6:4@9 9:2@60", "1:1@1 2:2@2 3:3@3 4:4@4 5:5@5 6:6@6 7:7@7 8:8@8", "5:1@1 2:3@4 5:2@2", "-3:-1@-1 -3:4@4"}
}

// roomy tells the seats s as a piece of a longer list.
func roomy(s string) []api.Seat {
	l := append(append(seatsOf("1:9@9 2:9@9"), seatsOf(s)...), seatsOf("3:9@8 4:9@7 5:9@6")...)
	return l[2 : len(l)-3]
}

// whole is all of l in memory of its own, with the room behind it.
func whole(l []api.Seat) []api.Seat {
	return clone(l[:cap(l)])
}

// fill puts v all over l and the room behind it.
func fill[T any](l []T, v T) {
	l = l[:cap(l)]
	for k := range l {
		l[k] = v
	}
}

// turned is what no list here has.
func turned() api.Seat {
	return api.Seat{Session: -77, Seq: -78, Pos: -79}
}

// spoil writes to all of l, to the room behind it, and behind that.
func spoil(l []api.Seat) {
	_ = append(l, turned(), turned(), turned())
	fill(l, turned())
}

// turns are those that are had and those that are not: ahead of all, behind all, between.
func turns() []api.Seat {
	var all []api.Seat
	for session := -4; session <= 10; session++ {
		for seq := -1; seq <= 8; seq += 3 {
			all = append(all, api.Seat{Session: session, Seq: seq, Pos: 40 + seq})
		}
	}
	return all
}

// tell tells what Turn tells of l by s.
func tell(l []api.Seat, s api.Seat) []api.Seat {
	got, _ := seat.Turn(l, s.Session, s.Seq, s.Pos)
	return got
}

func TestLeavesWhatIsHandedIn(t *testing.T) {
	for _, x := range asked() {
		l := roomy(x)
		was := whole(l)
		for _, s := range turns() {
			for range 2 {
				if got, want := tell(l, s), tell(seatsOf(x), s); !plainSame(got, want) {
					t.Errorf("Turn(%s, %v) = %v, want %v", x, s, got, want)
				}
				want, ok := plainFind(seatsOf(x), s.Session)
				wantFind(t, l, s.Session, want, ok)
				wantSame(t, l, seatsOf(x), true)
			}
		}
		if !plainSame(whole(l), was) {
			t.Errorf("%s: what was handed in is now %v", x, whole(l))
		}
	}
}

// TestKeepsNothing: who writes to what was handed in, or to the room behind it, does not change what was told, nor what is told of the next one.
func TestKeepsNothing(t *testing.T) {
	for _, x := range asked() {
		for _, s := range turns() {
			want := clone(tell(seatsOf(x), s))
			l := roomy(x)
			got := tell(l, s)
			fill(l, turned())
			if !plainSame(got, want) {
				t.Errorf("Turn of %s by %v: what was told is now %v", x, s, got)
			}
			if again := tell(seatsOf(x), s); !plainSame(again, want) {
				t.Errorf("Turn of %s by %v: what is told next is %v", x, s, again)
			}
		}
	}
}

// TestSharesNothingWithWhatIsHandedIn: who writes to what was told, or to the room behind it, does not change what was handed in, also where it was told as it is.
func TestSharesNothingWithWhatIsHandedIn(t *testing.T) {
	for _, x := range asked() {
		for _, s := range turns() {
			l := roomy(x)
			was := whole(l)
			spoil(tell(l, s))
			if !plainSame(whole(l), was) {
				t.Errorf("Turn of %s by %v: what was handed in is now %v", x, s, whole(l))
			}
		}
	}
}

// TestAnswersShareNothing: who writes to what one call told changes nothing that another one told.
func TestAnswersShareNothing(t *testing.T) {
	for _, x := range asked() {
		l := roomy(x)
		for _, a := range turns() {
			for _, b := range turns() {
				one, other := tell(l, a), tell(l, b)
				was := whole(other)
				spoil(one)
				if !plainSame(whole(other), was) {
					t.Errorf("Turn of %s by %v: another answer, by %v, is now %v", x, a, b, other)
				}
			}
		}
	}
}

// TestTurnsOfOneShareNothing: two that go on from one list are lists of their own, though it has room behind it.
func TestTurnsOfOneShareNothing(t *testing.T) {
	for range 3 {
		base := tell(tell(tell(nil, seatOf("1:1@1")), seatOf("2:1@2")), seatOf("3:1@3"))
		a, b := tell(base, seatOf("4:1@4")), tell(base, seatOf("5:1@5"))
		c := tell(a, seatOf("1:2@6"))
		if !plainSame(a, seatsOf("1:1@1 2:1@2 3:1@3 4:1@4")) || !plainSame(b, seatsOf("1:1@1 2:1@2 3:1@3 5:1@5")) || !plainSame(c, seatsOf("1:2@6 2:1@2 3:1@3 4:1@4")) || !plainSame(base, seatsOf("1:1@1 2:1@2 3:1@3")) {
			t.Errorf("two that go on from %v: %v and %v, and %v", base, a, b, c)
		}
	}
}

// TestFindIsOfItsOwn: what Find told stays, though the list is written to.
func TestFindIsOfItsOwn(t *testing.T) {
	l := seatsOf("1:2@3 4:5@6")
	a, _ := seat.Find(l, 1)
	b, _ := seat.Find(l, 4)
	fill(l, turned())
	if a != seatOf("1:2@3") || b != seatOf("4:5@6") {
		t.Errorf("what was told is now %v, %v", a, b)
	}
}
