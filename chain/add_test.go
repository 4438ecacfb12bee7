package chain_test

import (
	"math"
	"math/rand/v2"
	"testing"

	"diwan/api"
	"diwan/chain"
)

func TestAdd(t *testing.T) {
	for _, x := range []struct{ l, v, want string }{
		// to nothing
		{"", "1a", "1a"},
		{"", "1!", "1!"},
		{"", "600", "600"},
		{"", "9223372036854775807a", "9223372036854775807a"},
		{"", "0a", ""},
		{"", "-1a", ""},
		{"", "-9223372036854775808a", ""},
		// behind one
		{"1a", "2b", "1a 2b"},
		{"1a", "2!", "1a 2!"},
		{"1!", "2!", "1! 2!"},
		{"1a", "2a", "1a 2a"},
		{"1a", "9223372036854775807b", "1a 9223372036854775807b"},
		{"4294967296a", "4294967297b", "4294967296a 4294967297b"},
		// behind several
		{"1a 2b 3!", "4c", "1a 2b 3! 4c"},
		{"1a 5b 9c", "10d", "1a 5b 9c 10d"},
		{"1a 5b 9c", "600!", "1a 5b 9c 600!"},
		// at the last one's
		{"1a", "1b", "1a"},
		{"1a", "1!", "1a"},
		{"1a", "1a", "1a"},
		{"1a 5b 9c", "9d", "1a 5b 9c"},
		{"9223372036854775807a", "9223372036854775807b", "9223372036854775807a"},
		// below it
		{"2a", "1b", "2a"},
		{"1a", "0b", "1a"},
		{"1a", "-1b", "1a"},
		{"1a 5b 9c", "8d", "1a 5b 9c"},
		{"1a 5b 9c", "3d", "1a 5b 9c"}, // there is room for it, but not behind the others
		{"3a 5b 9c", "1d", "3a 5b 9c"},
		{"1a 5b 9!", "5d", "1a 5b 9!"},
		{"4294967297a", "2b", "4294967297a"},
		{"1a 5b", "-9223372036854775808c", "1a 5b"},
		// with whatever in it
		{"1a", "2abcdefghijklmnop", "1a 2abcdefghijklmnop"},
		{"1a", "2abcdefghijklmnopq", "1a 2abcdefghijklmnopq"},
		{"1a", "2!b", "1a 2!b"},
		// to those that may not be, too
		{"0a", "1b", "0a 1b"},
		{"0a", "0b", "0a"},
		{"-5a", "-4b", "-5a -4b"},
		{"-5a", "-5b", "-5a"},
		{"-5a", "0b", "-5a 0b"},
		{"9a 3b", "4c", "9a 3b 4c"},
		{"9a 3b", "3c", "9a 3b"},
		{"2a 2b", "3c", "2a 2b 3c"},
		{"1!x", "2a", "1!x 2a"},
	} {
		l, v := chainOf(x.l), versionOf(x.v)
		wantAdd(t, l, v, chainOf(x.want))
		if !same(plainAdd(l, v), chainOf(x.want)) {
			t.Errorf("plainAdd(%s, %s) = %v", x.l, x.v, plainAdd(l, v))
		}
	}
}

// TestAddToNothing: however nothing is handed in.
func TestAddToNothing(t *testing.T) {
	for _, l := range nothings() {
		wantAdd(t, l, versionOf("3a"), chainOf("3a"))
		wantAdd(t, l, versionOf("1!"), chainOf("1!"))
		wantAdd(t, l, versionOf("0a"), nil)
		wantAdd(t, l, versionOf("-1a"), nil)
	}
}

// TestAddToAll: all short rows of positions, in any order, and one of each position to add.
func TestAddToAll(t *testing.T) {
	for _, row := range rows(-1, 4, 5) {
		enough(t)
		l := written(row)
		for pos := -2; pos <= 5; pos++ {
			v := api.Version{Pos: pos, Val: "new", Gone: pos%2 == 0}
			wantAdd(t, l, v, plainAdd(l, v))
		}
	}
}

// TestAddOneByOne: what was written one behind the other is the chain, whatever came too late.
func TestAddOneByOne(t *testing.T) {
	r := rand.New(rand.NewPCG(3, 15))
	for range 300 {
		enough(t)
		all := chances(r, 40)
		var l []api.Version
		for k, v := range all {
			l = chain.Add(l, v)
			if late := chance(r, r.IntN(v.Pos+1)); !same(chain.Add(l, late), all[:k+1]) {
				t.Errorf("Add(%v, %v) = %v", l, late, chain.Add(l, late))
			}
		}
		if !same(l, all) || !chain.May(l) {
			t.Errorf("one by one: %v, want %v", l, all)
		}
	}
}

// TestAddStaysOne: to a chain that may be, and with a version that may be, it is one that may be.
func TestAddStaysOne(t *testing.T) {
	r := rand.New(rand.NewPCG(4, 15))
	for range 5000 {
		enough(t)
		l := chances(r, 20)
		v := chance(r, r.IntN(plainLast(l)+6)-2)
		if got := chain.Add(l, v); !chain.May(got) || chain.Last(got) != max(chain.Last(l), v.Pos) {
			t.Errorf("Add(%v, %v) = %v", l, v, got)
		}
	}
}

// TestAddIsSeenFromThere: from its Pos on it is told, below it what was told before.
func TestAddIsSeenFromThere(t *testing.T) {
	r := rand.New(rand.NewPCG(5, 15))
	for range 2000 {
		enough(t)
		l := chances(r, 20)
		end := chain.Last(l)
		v := chance(r, end+1+r.IntN(3))
		got := chain.Add(l, v)
		for pos := -1; pos < v.Pos; pos++ {
			was, ok := chain.At(l, pos)
			wantAt(t, got, pos, was, ok)
		}
		for _, pos := range []int{v.Pos, v.Pos + 1, v.Pos + 100, math.MaxInt} {
			wantAt(t, got, pos, v, true)
		}
		// and what comes too late is never seen
		late := chain.Add(l, chance(r, r.IntN(end+1)))
		for pos := -1; pos <= end+2; pos++ {
			was, ok := chain.At(l, pos)
			wantAt(t, late, pos, was, ok)
		}
	}
}

// TestAddToMany: far more than logs have entries.
func TestAddToMany(t *testing.T) {
	const many = 1 << 16
	l := rising(many)
	wantAdd(t, l, api.Version{Pos: many + 1, Val: "new"}, append(rising(many), api.Version{Pos: many + 1, Val: "new"}))
	wantAdd(t, l, api.Version{Pos: many, Val: "new"}, rising(many))
	wantAdd(t, l, api.Version{Pos: 1, Val: "new"}, rising(many))
}

// TestAddToAPart: what stands ahead of what is handed in, and behind it, is not looked at.
func TestAddToAPart(t *testing.T) {
	l := chainOf("1a 3b 4! 6c 8d")
	for from := range len(l) + 1 {
		for to := from; to <= len(l); to++ {
			for pos := range 10 {
				v := api.Version{Pos: pos, Val: "new"}
				wantAdd(t, l[from:to], v, plainAdd(clone(l[from:to]), v))
			}
		}
	}
}
