package epoch_test

import (
	"reflect"
	"testing"

	"diwan/api"
	"diwan/epoch"
)

// asked are logs of each kind.
func asked() []string {
	return []string{"", "a", "|", "ab", "||", "|ab", "ab|", "ab|cd", "ab||cd", "|a|b|", "abC|deF|", "abcdefgh|ijklmnop|q", "|||||||||"}
}

// roomy tells the log s as a piece of a longer one, with more behind each list that its entries carry.
func roomy(s string) []api.Entry {
	l := logOf("x|" + s + "y|z")
	for k := range l {
		t := &l[k].T
		t.Reads = append(t.Reads, api.Read{Key: "behind", Version: k}, api.Read{Key: "end"})[:len(t.Reads)]
		t.Writes = append(t.Writes, api.Write{Key: "behind"}, api.Write{Key: "end", Gone: true})[:len(t.Writes)]
	}
	return l[2 : 2+len(s)]
}

// whole is all of l in memory of its own, with the room behind it and behind what it carries.
func whole(l []api.Entry) []api.Entry {
	l = clone(l[:cap(l)])
	for k := range l {
		t := &l[k].T
		t.Reads, t.Writes = clone(t.Reads[:cap(t.Reads)]), clone(t.Writes[:cap(t.Writes)])
	}
	return l
}

// fill puts v all over l and the room behind it.
func fill[T any](l []T, v T) {
	l = l[:cap(l)]
	for k := range l {
		l[k] = v
	}
}

func TestLeavesWhatIsHandedIn(t *testing.T) {
	for _, s := range asked() {
		l := roomy(s)
		was := whole(l)
		want(t, l, plainCut(logOf(s)))
		want(t, l, plainCut(logOf(s)))
		if !reflect.DeepEqual(whole(l), was) {
			t.Errorf("%s: what was handed in is now %+v", s, l)
		}
	}
}

// TestKeepsNothing: who writes to what was handed in does not change what was told.
func TestKeepsNothing(t *testing.T) {
	for _, s := range asked() {
		l := roomy(s)
		got := epoch.Cut(l)
		for _, e := range l[:cap(l)] {
			fill(e.T.Reads, api.Read{Key: "turned"})
			fill(e.T.Writes, api.Write{Key: "turned"})
		}
		for _, seal := range []bool{false, true} {
			fill(l, api.Entry{Term: -7, Seal: seal, T: carried('t')})
			if !same(got, plainCut(logOf(s))) {
				t.Errorf("%s: what was told is now %v", s, got)
			}
		}
		// nor what is told of the next one
		want(t, logOf(s), plainCut(logOf(s)))
	}
}

// TestListsShareNothing: who writes to one list of an answer, or to the room behind it, changes no other one.
func TestListsShareNothing(t *testing.T) {
	for _, s := range asked() {
		batches := plainCut(logOf(s))
		for k := range batches {
			got := epoch.Cut(logOf(s))
			fill(got[k], -7)
			_ = append(got[k], -8, -8, -8)
			got[k] = batches[k]
			if !same(got, batches) {
				t.Errorf("%s: list %d was written to: %v", s, k, got)
			}
		}
	}
}

// TestAnswersShareNothing: who writes to what one call told, or to the room behind it, changes nothing that another one told, nor will tell.
func TestAnswersShareNothing(t *testing.T) {
	for _, s := range asked() {
		l := roomy(s)
		was := whole(l)
		batches := plainCut(logOf(s))
		one, other := epoch.Cut(l), epoch.Cut(l)
		for k := range one {
			fill(one[k], -7)
			_ = append(one[k], -8, -8, -8)
		}
		_ = append(one, []int{-9}, []int{-9}, []int{-9})
		fill(one, []int{-7})
		if !same(other, batches) || !same(epoch.Cut(l), batches) {
			t.Errorf("%s: another answer is now %v", s, other)
		}
		if !reflect.DeepEqual(whole(l), was) {
			t.Errorf("%s: what was handed in is now %+v", s, l)
		}
	}
}

// TestAnswersOfALogThatGoesOn: those of its front and of all of it share nothing either.
func TestAnswersOfALogThatGoesOn(t *testing.T) {
	const s = "ab|cd||efG"
	l := logOf(s)
	var told [][][]int
	for n := range len(l) + 1 {
		told = append(told, epoch.Cut(l[:n]))
	}
	for n := range told {
		for k := range told[n] {
			fill(told[n][k], -7)
			_ = append(told[n][k], -8, -8)
		}
		for m := n + 1; m < len(told); m++ {
			if !same(told[m], plainCut(logOf(s[:m]))) {
				t.Errorf("of the first %d: what was told of the first %d is now %v", n, m, told[m])
			}
		}
	}
}
