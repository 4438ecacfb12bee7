package seat_test

import (
	"math/rand/v2"
	"testing"

	"diwan/api"
)

func TestSame(t *testing.T) {
	const one = "2:7@30 3:1@31 9:2@600"
	for _, x := range []struct {
		a, b string
		want bool
	}{
		{"", "", true},
		{"1:1@1", "1:1@1", true},
		{"0:0@0", "0:0@0", true},
		{one, one, true},
		// in how many there are
		{"", "1:1@1", false},
		{"", "0:0@0", false},
		{"", one, false},
		{"1:1@1", "1:1@1 2:1@2", false},
		{"1:1@1", "1:1@1 1:1@1", false},
		{"1:1@1", "1:1@1 0:0@0", false},
		{one, "2:7@30 3:1@31", false},
		{one, "3:1@31 9:2@600", false},
		{one, "2:7@30 9:2@600", false},
		{one, one + " 10:1@1", false},
		{one, "1:1@1 " + one, false},
		// in one's Session alone
		{"1:1@1", "2:1@1", false},
		{"1:1@1", "-1:1@1", false},
		{"1:1@1", "4294967297:1@1", false},
		{one, "1:7@30 3:1@31 9:2@600", false},
		{one, "2:7@30 4:1@31 9:2@600", false},
		{one, "2:7@30 3:1@31 8:2@600", false},
		// in one's Seq alone
		{"1:1@1", "1:2@1", false},
		{"1:1@1", "1:0@1", false},
		{"1:1@1", "1:4294967297@1", false},
		{one, "2:8@30 3:1@31 9:2@600", false},
		{one, "2:7@30 3:2@31 9:2@600", false},
		{one, "2:7@30 3:1@31 9:1@600", false},
		// in one's Pos alone
		{"1:1@1", "1:1@2", false},
		{"1:1@1", "1:1@0", false},
		{"1:1@1", "1:1@4294967297", false},
		{one, "2:7@31 3:1@31 9:2@600", false},
		{one, "2:7@30 3:1@30 9:2@600", false},
		{one, "2:7@30 3:1@31 9:2@601", false},
		// in two ways that make up for one another
		{"1:2@3", "2:1@3", false},
		{"1:2@3", "1:3@2", false},
		{"1:2@3", "3:2@1", false},
		{"1:2@3 2:2@3", "1:3@3 2:1@3", false},
		{one, "2:1@31 3:7@30 9:2@600", false},
		// in their order
		{one, "3:1@31 2:7@30 9:2@600", false},
		{one, "9:2@600 3:1@31 2:7@30", false},
		// of those that may not be, too
		{"9:1@1 3:-2@2 3:9@-1 0:0@0", "9:1@1 3:-2@2 3:9@-1 0:0@0", true},
		{"9:1@1 3:-2@2 3:9@-1 0:0@0", "9:1@1 3:9@-1 3:-2@2 0:0@0", false},
		{"9:1@1 3:-2@2 3:9@-1 0:0@0", "9:1@1 3:-2@2 3:9@-1", false},
		{"-9223372036854775808:1@9223372036854775807", "-9223372036854775808:1@9223372036854775807", true},
		{"-9223372036854775808:1@9223372036854775807", "-9223372036854775808:1@-9223372036854775808", false},
		{"-9223372036854775808:1@9223372036854775807", "9223372036854775807:1@9223372036854775807", false},
	} {
		wantSame(t, seatsOf(x.a), seatsOf(x.b), x.want)
	}
}

// TestSameOfNothing: a list that is nil and an empty one are one.
func TestSameOfNothing(t *testing.T) {
	for _, a := range nothings() {
		for _, b := range nothings() {
			wantSame(t, a, b, true)
		}
		wantSame(t, a, []api.Seat{{}}, false)
		wantSame(t, a, seatsOf("1:2@3"), false)
	}
}

// TestSameOfAll: each two of all sets of six sessions.
func TestSameOfAll(t *testing.T) {
	for a := range 1 << 6 {
		for b := range 1 << 6 {
			wantSame(t, rowOf(a), rowOf(b), a == b)
		}
	}
}

// TestSameByChance: seats and one change to them.
func TestSameByChance(t *testing.T) {
	r := rand.New(rand.NewPCG(5, 17))
	for k := range 5000 {
		enough(t)
		l := seatsByChance(r, 12)
		if k%4 == 0 {
			l = wild(r, 12)
		}
		wantSame(t, l, clone(l), true)
		wantSame(t, l, append(clone(l), api.Seat{}), false)
		if len(l) == 0 {
			continue
		}
		at := r.IntN(len(l))
		other := clone(l)
		wantSame(t, l, append(other[:at], other[at+1:]...), false)
		by := []int{1, -1, 1 << 32, 1 << 62}[r.IntN(4)]
		for field := range 3 {
			other = clone(l)
			switch field {
			case 0:
				other[at].Session += by
			case 1:
				other[at].Seq += by
			case 2:
				other[at].Pos += by
			}
			wantSame(t, l, other, false)
		}
	}
}

// TestSameOfMany: far more sessions than there may be, unlike at the last one alone.
func TestSameOfMany(t *testing.T) {
	const many = 1 << 16
	a, b := rising(many), rising(many)
	wantSame(t, a, b, true)
	b[many-1].Pos++
	wantSame(t, a, b, false)
	wantSame(t, a, b[:many-1], false)
	wantSame(t, a[:many-1], b[:many-1], true)
}

// TestSameOfAPart: what stands ahead of what is handed in, and behind it, is not looked at.
func TestSameOfAPart(t *testing.T) {
	a, b := seatsOf("1:1@1 3:4@5 4:6@7 8:8@8 9:9@9"), seatsOf("2:2@2 3:4@5 4:6@7 9:9@9")
	wantSame(t, a[1:3], b[1:3], true)
	wantSame(t, a[1:2], b[1:3], false)
	wantSame(t, a[:3], b[:3], false)
	wantSame(t, a[1:4], b[1:4], false)
	wantSame(t, a[1:1], b[2:2], true)
}
