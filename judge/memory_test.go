package judge_test

import (
	"math/rand/v2"
	"reflect"
	"testing"

	"diwan/api"
)

// asked are rows of each kind.
func asked() [][]api.Txn {
	all := [][]api.Txn{nil}
	for _, s := range []string{
		"1:1", "1:1 a@3", "1:1 > a=x", "1:1 a@0 > a=x; 2:1 a@0 > a=y", "1:1 > a=x; 1:1 > a=y", "3:1; 2:1 > c=x; 1:1 > b=y a=z",
		"1:1 > a=x b=y; 2:1 a@1 > a!; 1:2 a@2 b@1 > b=z c=u; 1:2; 3:1 a@1 > d=n; 4:1 > a=w b=w c=w d=w", "0:-1 @0 > =x; -1:0 > a=x a=y; 0:-1",
	} {
		all = append(all, rowOf(s))
	}
	r := rand.New(rand.NewPCG(2, 18))
	for range 6 {
		all = append(all, rowByChance(r, 12), wild(r, 8))
	}
	return all
}

// copied is l in memory of its own, down to all lists, with the room behind each.
func copied(l []api.Txn) []api.Txn {
	l = clone(l[:cap(l)])
	for k, u := range l {
		l[k].Reads, l[k].Writes = clone(u.Reads[:cap(u.Reads)]), clone(u.Writes[:cap(u.Writes)])
	}
	return l
}

// roomy is l as a piece of a longer row, with each list as a piece of a longer one.
func roomy(l []api.Txn) []api.Txn {
	all := append(rowOf("5:9 > a=ahead b=ahead; 6:9"), l...)
	for k, u := range all {
		reads := append(append(rowOf("1:1 a@7 b@7")[0].Reads, u.Reads...), rowOf("1:1 c@8 d@8 e@8")[0].Reads...)
		writes := append(append(rowOf("1:1 > a=7 b!")[0].Writes, u.Writes...), rowOf("1:1 > a=8 b! c=8")[0].Writes...)
		all[k].Reads, all[k].Writes = reads[2:len(reads)-3], writes[2:len(writes)-3]
	}
	all = append(all, rowOf("7:9 a@0 > a=behind; 8:9 > b=behind; 1:1000 > c=behind")...)
	return all[2 : len(all)-3]
}

// fill puts v all over l and the room behind it.
func fill[T any](l []T, v T) {
	l = l[:cap(l)]
	for k := range l {
		l[k] = v
	}
}

// turnedVersion is what no chain here has.
func turnedVersion() api.Version { return api.Version{Pos: -77, Val: "turned", Gone: true} }

// spoilRow writes to all of l, to its lists, and to the room behind each.
func spoilRow(l []api.Txn) {
	for _, u := range l[:cap(l)] {
		fill(u.Reads, api.Read{Key: "turned", Version: -77})
		fill(u.Writes, api.Write{Key: "turned", Val: "turned"})
	}
	fill(l, api.Txn{Session: -77, Seq: -77})
}

// spoil writes to all lists of a, to the room behind each, and behind that.
func (a answer) spoil() {
	_ = append(a.said, -77, -77, -77)
	fill(a.said, -77)
	for _, c := range a.keys.Chains[:cap(a.keys.Chains)] {
		_ = append(c.L, turnedVersion(), turnedVersion())
		fill(c.L, turnedVersion())
	}
	_ = append(a.keys.Chains, api.Chain{Key: "turned"}, api.Chain{Key: "turned"})
	fill(a.keys.Chains, api.Chain{Key: "turned"})
	_ = append(a.seats, api.Seat{Session: -77}, api.Seat{Session: -77})
	fill(a.seats, api.Seat{Session: -77})
}

func TestLeavesWhatIsHandedIn(t *testing.T) {
	for _, x := range asked() {
		l := roomy(x)
		was := copied(l)
		for range 2 {
			wantPlain(t, l)
			wantFold(t, l, fold(x))
		}
		if !reflect.DeepEqual(copied(l), was) {
			t.Errorf("%v: what was handed in is now %v", x, copied(l))
		}
	}
}

// TestKeepsNothing: who writes to what was handed in, or to the room behind it, does not change what was told, nor what is told of the next one.
func TestKeepsNothing(t *testing.T) {
	for _, x := range asked() {
		want := fold(x).own()
		l := roomy(x)
		got := fold(l)
		spoilRow(l)
		if !got.is(want) {
			t.Errorf("%v: what was told is now %v", x, got)
		}
		wantFold(t, x, want)
	}
}

// TestSharesNothingWithWhatIsHandedIn: who writes to what was told, or to the room behind it, does not change what was handed in.
func TestSharesNothingWithWhatIsHandedIn(t *testing.T) {
	for _, x := range asked() {
		l := roomy(x)
		was := copied(l)
		fold(l).spoil()
		if !reflect.DeepEqual(copied(l), was) {
			t.Errorf("%v: what was handed in is now %v", x, copied(l))
		}
	}
}

// TestAnswersShareNothing: who writes to what one call told changes nothing that another one told.
func TestAnswersShareNothing(t *testing.T) {
	for _, x := range asked() {
		l := roomy(x)
		one, other := fold(l), fold(l)
		want := other.own()
		one.spoil()
		if !other.is(want) {
			t.Errorf("%v: another answer is now %v", x, other)
		}
		wantFold(t, l, want)
	}
}

// TestListsShareNothing: of one answer no list stands in another one's memory, nor in the room behind it.
func TestListsShareNothing(t *testing.T) {
	for _, x := range asked() {
		want := fold(x)
		got := fold(x)
		answer{seats: got.seats, said: got.said}.spoil()
		if !(answer{keys: got.keys}).is(answer{keys: want.keys}) {
			t.Errorf("%v: keys are now %v", x, got.keys)
		}
		got = fold(x)
		answer{keys: got.keys, said: got.said}.spoil()
		if !(answer{seats: got.seats}).is(answer{seats: want.seats}) {
			t.Errorf("%v: seats are now %v", x, got.seats)
		}
		got = fold(x)
		answer{keys: got.keys, seats: got.seats}.spoil()
		if !(answer{said: got.said}).is(answer{said: want.said}) {
			t.Errorf("%v: verdicts are now %v", x, got.said)
		}
	}
}

// TestChainsShareNothing: of one answer no chain stands in the room behind another one.
func TestChainsShareNothing(t *testing.T) {
	for _, x := range asked() {
		want := fold(x)
		for at := range want.keys.Chains {
			got := fold(x)
			_ = append(got.keys.Chains[at].L, turnedVersion(), turnedVersion(), turnedVersion())
			fill(got.keys.Chains[at].L, turnedVersion())
			got.keys.Chains[at].L = clone(want.keys.Chains[at].L)
			if !got.is(want) {
				t.Errorf("%v: when chain %d was written to: %v", x, at, got.keys)
			}
		}
	}
}
