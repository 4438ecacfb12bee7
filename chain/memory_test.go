package chain_test

import (
	"testing"

	"diwan/api"
	"diwan/chain"
)

// asked are chains of each kind.
func asked() []string {
	return []string{"", "1a", "3!", "1a 2b", "1a 3! 5c", "2a 4b 6! 8 9d", "1a 2b 3c 4d 5e 6f 7g 8h 9i", "5a 5b 3c", "0a -1b"}
}

// roomy tells the chain s as a piece of a longer one.
func roomy(s string) []api.Version {
	l := append(append(chainOf("1ahead 1ahead"), chainOf(s)...), chainOf("10behind 11behind 12!")...)
	return l[2 : len(l)-3]
}

// whole is all of l in memory of its own, with the room behind it.
func whole(l []api.Version) []api.Version {
	return clone(l[:cap(l)])
}

// fill puts v all over l and the room behind it.
func fill[T any](l []T, v T) {
	l = l[:cap(l)]
	for k := range l {
		l[k] = v
	}
}

// turned is what no chain here has.
func turned() api.Version {
	return api.Version{Pos: -77, Val: "turned", Gone: true}
}

// spoil writes to all of l, to the room behind it, and behind that.
func spoil(l []api.Version) {
	_ = append(l, turned(), turned(), turned())
	fill(l, turned())
}

// call is one that tells versions, and what it tells by P15.1.
type call struct {
	name string
	tell func(l []api.Version) []api.Version
	want func(l []api.Version) []api.Version
}

// calls are Add and Trim at each position, where what is told is as it was, too.
func calls() []call {
	var all []call
	for pos := -2; pos <= 11; pos++ {
		v := api.Version{Pos: pos, Val: "new"}
		all = append(all, call{
			"Add",
			func(l []api.Version) []api.Version { return chain.Add(l, v) },
			func(l []api.Version) []api.Version { return plainAdd(l, v) },
		}, call{
			"Trim",
			func(l []api.Version) []api.Version { return chain.Trim(l, pos) },
			func(l []api.Version) []api.Version { return plainTrim(l, pos) },
		})
	}
	return all
}

func TestLeavesWhatIsHandedIn(t *testing.T) {
	for _, s := range asked() {
		l := roomy(s)
		was := whole(l)
		for pos := -2; pos <= 11; pos++ {
			v := api.Version{Pos: pos, Val: "new"}
			for range 2 {
				at, ok := plainAt(chainOf(s), pos)
				wantAt(t, l, pos, at, ok)
				wantLast(t, l, plainLast(chainOf(s)))
				wantAdd(t, l, v, plainAdd(chainOf(s), v))
				wantTrim(t, l, pos, plainTrim(chainOf(s), pos))
				wantMay(t, l, plainMay(chainOf(s)))
			}
		}
		if !same(whole(l), was) {
			t.Errorf("%s: what was handed in is now %v", s, whole(l))
		}
	}
}

// TestKeepsNothing: who writes to what was handed in, or to the room behind it, does not change what was told, nor what is told of the next one.
func TestKeepsNothing(t *testing.T) {
	for _, s := range asked() {
		for _, c := range calls() {
			l := roomy(s)
			got := c.tell(l)
			fill(l, turned())
			if !same(got, c.want(chainOf(s))) {
				t.Errorf("%s of %s: what was told is now %v", c.name, s, got)
			}
			if again := c.tell(chainOf(s)); !same(again, c.want(chainOf(s))) {
				t.Errorf("%s of %s: what is told next is %v", c.name, s, again)
			}
		}
	}
}

// TestSharesNothingWithWhatIsHandedIn: who writes to what was told, or to the room behind it, does not change what was handed in.
func TestSharesNothingWithWhatIsHandedIn(t *testing.T) {
	for _, s := range asked() {
		for _, c := range calls() {
			l := roomy(s)
			was := whole(l)
			spoil(c.tell(l))
			if !same(whole(l), was) {
				t.Errorf("%s of %s: what was handed in is now %v", c.name, s, whole(l))
			}
			if got := c.tell(l); !same(got, c.want(chainOf(s))) {
				t.Errorf("%s of %s: what is told next is %v", c.name, s, got)
			}
		}
	}
}

// TestAnswersShareNothing: who writes to what one call told changes nothing that another one told.
func TestAnswersShareNothing(t *testing.T) {
	for _, s := range asked() {
		l := roomy(s)
		for _, a := range calls() {
			for _, b := range calls() {
				one, other := a.tell(l), b.tell(l)
				spoil(one)
				if !same(other, b.want(chainOf(s))) {
					t.Errorf("%s of %s: another answer, of %s, is now %v", a.name, s, b.name, other)
				}
			}
		}
	}
}

// TestAddsOfOneShareNothing: two that go on from one chain are chains of their own, though it has room behind it.
func TestAddsOfOneShareNothing(t *testing.T) {
	for range 3 {
		base := chain.Add(chain.Add(chain.Add(nil, versionOf("1a")), versionOf("2b")), versionOf("3c"))
		a, b := chain.Add(base, versionOf("4x")), chain.Add(base, versionOf("5y"))
		c := chain.Add(a, versionOf("6z"))
		if !same(a, chainOf("1a 2b 3c 4x")) || !same(b, chainOf("1a 2b 3c 5y")) || !same(c, chainOf("1a 2b 3c 4x 6z")) || !same(base, chainOf("1a 2b 3c")) {
			t.Errorf("two that go on from %v: %v and %v, and %v", base, a, b, c)
		}
	}
}

// TestTrimsShareNothing: a chain and what was trimmed of it are chains of their own, which go on by themselves.
func TestTrimsShareNothing(t *testing.T) {
	l := chainOf("1a 2b 3c 4d")
	one := chain.Trim(l, 2)
	two := chain.Trim(one, 3)
	_ = append(one[:1], turned())
	if !same(l, chainOf("1a 2b 3c 4d")) || !same(two, chainOf("3c 4d")) {
		t.Errorf("when one was written to: %v, %v", l, two)
	}
}

// TestAtIsOfItsOwn: what At told stays, though the chain is written to.
func TestAtIsOfItsOwn(t *testing.T) {
	l := chainOf("1a 2b 3!")
	a, _ := chain.At(l, 1)
	b, _ := chain.At(l, 2)
	c, _ := chain.At(l, 9)
	fill(l, turned())
	if a != versionOf("1a") || b != versionOf("2b") || c != versionOf("3!") {
		t.Errorf("what was told is now %v, %v, %v", a, b, c)
	}
}
