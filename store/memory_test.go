package store_test

import (
	"reflect"
	"slices"
	"testing"

	"diwan/api"
	"diwan/store"
)

// asked are stores of each kind.
func asked() []string {
	return []string{"", "3", "0 a=1x", "2 a=3!", "0 a=1x b=2y", "4 a=2x,4y,6! b=1u c=5v,8w", "0 c=9!", "5 a=1x,2y,3z,4u,5v,6w,7s,8r b=7t", "0 a= b=1x", "0 b=1x a=2y,1z"}
}

// roomy tells the store s as a piece of a longer one, each chain as a piece of a longer one.
func roomy(s string) api.Store {
	st := storeOf(s)
	for k, c := range st.Chains {
		l := slices.Concat(storeOf("0 x=1ahead,1ahead").Chains[0].L, c.L, storeOf("0 x=10behind,11behind,12!").Chains[0].L)
		st.Chains[k].L = l[2 : len(l)-3]
	}
	all := slices.Concat(storeOf("0 ahead=1x ahead=2y").Chains, st.Chains, storeOf("0 behind=1x,2y behind=3z").Chains)
	st.Chains = all[2 : len(all)-2]
	return st
}

// whole is all of s in memory of its own, with the room behind each list.
func whole(s api.Store) api.Store {
	s.Chains = s.Chains[:cap(s.Chains)]
	s.Chains = clone(s.Chains)
	for k, c := range s.Chains {
		s.Chains[k].L = clone(c.L[:cap(c.L)])
	}
	return s
}

// fill puts v all over l and the room behind it.
func fill[T any](l []T, v T) {
	l = l[:cap(l)]
	for k := range l {
		l[k] = v
	}
}

// turnedVersion is what no chain here has.
func turnedVersion() api.Version {
	return api.Version{Pos: -77, Val: "turned", Gone: true}
}

// turnedChain is what no store here has.
func turnedChain() api.Chain {
	return api.Chain{Key: "turned", L: []api.Version{turnedVersion()}}
}

// spoil writes to all lists of s, to the room behind each, and behind that.
func spoil(s api.Store) {
	for _, c := range s.Chains[:cap(s.Chains)] {
		_ = append(c.L, turnedVersion(), turnedVersion())
		fill(c.L, turnedVersion())
	}
	_ = append(s.Chains, turnedChain(), turnedChain())
	fill(s.Chains, turnedChain())
}

// call is one that tells a store.
type call struct {
	name string
	tell func(s api.Store) api.Store
}

// calls are Write and Trim at each position, where what is told is as it was, too.
func calls() []call {
	var all []call
	for pos := -2; pos <= 10; pos++ {
		for _, l := range []string{"", "a=n", "b!", "d=m", "A=o", "c=n a=m b=o", "A=1 d=2 aa=3 a!"} {
			all = append(all, call{"Write of " + l, func(s api.Store) api.Store { return store.Write(s, pos, writesOf(l)) }})
		}
		all = append(all, call{"Trim", func(s api.Store) api.Store { return store.Trim(s, pos) }})
	}
	return all
}

func TestLeavesWhatIsHandedIn(t *testing.T) {
	for _, x := range asked() {
		s := roomy(x)
		was := whole(s)
		for _, c := range calls() {
			if !alike(c.tell(s), c.tell(storeOf(x))) {
				t.Errorf("%s of %s: %v", c.name, x, c.tell(s))
			}
		}
		for pos := -2; pos <= 10; pos++ {
			wantReadsAs(t, s, storeOf(x), pos)
		}
		wantMay(t, s, plainMay(storeOf(x)))
		wantSame(t, s, storeOf(x), true)
		if !reflect.DeepEqual(whole(s), was) {
			t.Errorf("%s: what was handed in is now %v", x, whole(s))
		}
	}
}

// wantReadsAs holds all that reads s to what is told of other.
func wantReadsAs(t *testing.T, s, other api.Store, pos int) {
	t.Helper()
	for _, k := range names() {
		r, e := store.Get(other, k, pos)
		wantGet(t, s, k, pos, r, e)
		wantLast(t, s, k, store.Last(other, k))
		l, e := store.Span(other, k, "", pos)
		wantSpan(t, s, k, "", pos, l, e)
	}
}

// TestLeavesWritesAsTheyAre: nor is what is to be written changed, in whatever order it stands, nor what stands behind it.
func TestLeavesWritesAsTheyAre(t *testing.T) {
	for _, x := range []string{"", "a=n", "b! a=m", "c=1 b=2 a=3 a=4", "d=1 aa=2 !=3"} {
		l := append(writesOf(x), writesOf("zz=behind yy!")...)
		was := clone(l)
		store.Write(storeOf("2 a=1x b=3y"), 5, l[:len(l)-2])
		if !slices.Equal(l, was) {
			t.Errorf("%s: what was handed in is now %v", x, l)
		}
	}
}

// TestKeepsNothing: who writes to what was handed in, or to the room behind it, does not change what was told, nor what is told of the next one.
func TestKeepsNothing(t *testing.T) {
	for _, x := range asked() {
		for _, c := range calls() {
			want := plainCopy(c.tell(storeOf(x)))
			s := roomy(x)
			got := c.tell(s)
			spoil(s)
			if !store.Same(got, want) {
				t.Errorf("%s of %s: what was told is now %v", c.name, x, got)
			}
			if again := c.tell(storeOf(x)); !store.Same(again, want) {
				t.Errorf("%s of %s: what is told next is %v", c.name, x, again)
			}
		}
	}
}

// TestKeepsNoWrites: who writes to what was to be written does not change what was told.
func TestKeepsNoWrites(t *testing.T) {
	l := writesOf("a=n b! c=m")
	got := store.Write(storeOf("0 a=1x"), 5, l)
	fill(l, api.Write{Key: "turned", Val: "turned"})
	if !alike(got, storeOf("0 a=1x,5n b=5! c=5m")) {
		t.Errorf("what was told is now %v", got)
	}
}

// TestSharesNothingWithWhatIsHandedIn: who writes to what was told, or to the room behind it, does not change what was handed in, also where it was told as it is.
func TestSharesNothingWithWhatIsHandedIn(t *testing.T) {
	for _, x := range asked() {
		for _, c := range calls() {
			s := roomy(x)
			was := whole(s)
			spoil(c.tell(s))
			if !reflect.DeepEqual(whole(s), was) {
				t.Errorf("%s of %s: what was handed in is now %v", c.name, x, whole(s))
			}
		}
	}
}

// TestAnswersShareNothing: who writes to what one call told changes nothing that another one told.
func TestAnswersShareNothing(t *testing.T) {
	for _, x := range asked() {
		s := roomy(x)
		for _, a := range calls() {
			for _, b := range calls() {
				one, other := a.tell(s), b.tell(s)
				was := whole(other)
				spoil(one)
				if !reflect.DeepEqual(whole(other), was) {
					t.Errorf("%s of %s: another answer, of %s, is now %v", a.name, x, b.name, other)
				}
			}
		}
	}
}

// TestChainsShareNothing: of what is told no chain stands in the room behind another one.
func TestChainsShareNothing(t *testing.T) {
	for _, x := range asked() {
		for _, c := range calls() {
			for at := range c.tell(roomy(x)).Chains {
				got := c.tell(roomy(x))
				_ = append(got.Chains[at].L, turnedVersion(), turnedVersion(), turnedVersion())
				fill(got.Chains[at].L, turnedVersion())
				want := c.tell(storeOf(x))
				want.Chains[at], got.Chains[at] = api.Chain{}, api.Chain{}
				if !store.Same(got, want) {
					t.Errorf("%s of %s: when chain %d was written to: %v", c.name, x, at, got)
				}
			}
		}
	}
}

// TestSpansShareNothing: who writes to what Span told changes nothing else.
func TestSpansShareNothing(t *testing.T) {
	s := roomy("0 a=1x b=2y,3! c=2z")
	was := whole(s)
	one, _ := store.Span(s, "", "", 2)
	other, _ := store.Span(s, "", "", 2)
	_ = append(one, api.Read{Key: "turned"}, api.Read{Key: "turned"})
	fill(one, api.Read{Key: "turned"})
	if !slices.Equal(other, readsOf("a=1x b=2y c=2z")) {
		t.Errorf("another answer is now %v", other)
	}
	if !reflect.DeepEqual(whole(s), was) {
		t.Errorf("what was handed in is now %v", whole(s))
	}
	spoil(s)
	if !slices.Equal(other, readsOf("a=1x b=2y c=2z")) {
		t.Errorf("what was told is now %v", other)
	}
}

// TestWritesOfOneShareNothing: two that go on from one store are stores of their own.
func TestWritesOfOneShareNothing(t *testing.T) {
	for _, x := range asked() {
		base := store.Write(store.Write(storeOf(x), 20, writesOf("a=1 m=2")), 21, writesOf("a=3"))
		was := whole(base)
		a, b := store.Write(base, 22, writesOf("a=x b=x n=x")), store.Write(base, 23, writesOf("a=y !=y m=y"))
		wantA, wantB := plainCopy(a), plainCopy(b)
		c := store.Trim(store.Write(a, 24, writesOf("a=z n!")), 24)
		spoil(c)
		if !alike(a, wantA) || !alike(b, wantB) || !reflect.DeepEqual(whole(base), was) {
			t.Errorf("two that go on from %v: %v and %v", base, a, b)
		}
		if plainMay(storeOf(x)) && (!alike(a, plainWrite(base, 22, writesOf("a=x b=x n=x"))) || !alike(b, plainWrite(base, 23, writesOf("a=y !=y m=y")))) {
			t.Errorf("two that go on from %v: %v and %v", base, a, b)
		}
	}
}
