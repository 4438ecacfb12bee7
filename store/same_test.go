package store_test

import (
	"math/rand/v2"
	"testing"

	"diwan/api"
)

func TestSame(t *testing.T) {
	const one = "5 a=1x,3!,7y b=2z"
	for _, x := range []struct {
		a, b string
		want bool
	}{
		{"", "", true},
		{"0 a=1x", "0 a=1x", true},
		{"7 a=1!", "7 a=1!", true},
		{one, one, true},
		// in the Mark alone
		{"", "1", false},
		{"0 a=1x", "1 a=1x", false},
		{"0 a=1x", "-1 a=1x", false},
		{"5 a=1x", "4294967301 a=1x", false},
		{one, "6 a=1x,3!,7y b=2z", false},
		{one, "0 a=1x,3!,7y b=2z", false},
		// in a key alone
		{"0 a=1x", "0 b=1x", false},
		{"0 a=1x", "0 A=1x", false},
		{"0 a=1x", "0 =1x", false},
		{"0 a=1x", "0 aa=1x", false},
		{one, "5 a=1x,3!,7y c=2z", false},
		{one, "5 A=1x,3!,7y b=2z", false},
		{one, "5 a=1x,3!,7y bb=2z", false},
		// in one chain's length
		{"0 a=1x", "0 a=", false},
		{"0 a=1x", "0 a=1x,2y", false},
		{one, "5 a=1x,3! b=2z", false},
		{one, "5 a=1x,3!,7y,8y b=2z", false},
		{one, "5 a=3!,7y b=2z", false},
		{one, "5 a=1x,3!,7y b=2z,3z", false},
		{one, "5 a=1x,3!,7y b=", false},
		{one, "5 a= b=2z", false},
		// in one version's Pos alone
		{"0 a=1x", "0 a=2x", false},
		{"0 a=1x", "0 a=4294967297x", false},
		{one, "5 a=2x,3!,7y b=2z", false},
		{one, "5 a=1x,4!,7y b=2z", false},
		{one, "5 a=1x,3!,8y b=2z", false},
		{one, "5 a=1x,3!,7y b=1z", false},
		// in one version's Val alone
		{"0 a=1x", "0 a=1y", false},
		{"0 a=1x", "0 a=1", false},
		{"0 a=1x", "0 a=1xx", false},
		{one, "5 a=1X,3!,7y b=2z", false},
		{one, "5 a=1x,3!z,7y b=2z", false},
		{one, "5 a=1x,3!,7 b=2z", false},
		{one, "5 a=1x,3!,7y b=2y", false},
		// in one version's Gone alone
		{"0 a=1", "0 a=1!", false},
		{"0 a=1x", "0 a=1!x", false},
		{one, "5 a=1!x,3!,7y b=2z", false},
		{one, "5 a=1x,3,7y b=2z", false},
		{one, "5 a=1x,3!,7!y b=2z", false},
		{one, "5 a=1x,3!,7y b=2!z", false},
		// in how many keys there are
		{"", "0 a=1x", false},
		{"", "0 a=", false},
		{one, "5 a=1x,3!,7y", false},
		{one, "5 b=2z", false},
		{one, "5", false},
		{one, "5 a=1x,3!,7y b=2z c=2z", false},
		{one, "5 A=2z a=1x,3!,7y b=2z", false},
		// in their order, and in whose versions they are
		{one, "5 b=2z a=1x,3!,7y", false},
		{one, "5 a=2z b=1x,3!,7y", false},
		{"0 a=1x b=2y", "0 a=2y b=1x", false},
		{"0 a=1x,2y b=3z", "0 a=1x b=2y,3z", false},
		// of those that may not be, too
		{"-1 b= a=0x,0x =1!abc", "-1 b= a=0x,0x =1!abc", true},
		{"-1 b= a=0x,0x", "-1 b= a=0x,-1x", false},
		{"0 a=2x,1y", "0 a=1y,2x", false},
		{"0 a= a=", "0 a=", false},
	} {
		wantSame(t, storeOf(x.a), storeOf(x.b), x.want)
	}
}

// TestSameOfNothing: a list that is nil and an empty one are one, at each place.
func TestSameOfNothing(t *testing.T) {
	all := [][]api.Chain{nil, {}, make([]api.Chain, 0, 3), storeOf("0 a=1x b=2y").Chains[:0]}
	none := [][]api.Version{nil, {}, make([]api.Version, 0, 3), storeOf("0 a=1x").Chains[0].L[:0]}
	for _, a := range all {
		for _, b := range all {
			wantSame(t, api.Store{Chains: a, Mark: 3}, api.Store{Chains: b, Mark: 3}, true)
			wantSame(t, api.Store{Chains: a, Mark: 3}, api.Store{Chains: b, Mark: 4}, false)
		}
	}
	for _, a := range none {
		for _, b := range none {
			wantSame(t, api.Store{Chains: []api.Chain{{Key: "a", L: a}}}, api.Store{Chains: []api.Chain{{Key: "a", L: b}}}, true)
			wantSame(t, api.Store{Chains: []api.Chain{{Key: "a", L: a}}}, api.Store{Chains: []api.Chain{{Key: "b", L: b}}}, false)
			wantSame(t, api.Store{Chains: []api.Chain{{Key: "a", L: a}}}, api.Store{}, false)
		}
	}
}

// TestSameByChance: a store and one change to it.
func TestSameByChance(t *testing.T) {
	r := rand.New(rand.NewPCG(1, 16))
	for range 3000 {
		enough(t)
		s := storeByChance(r, 1+r.IntN(8))
		wantSame(t, s, plainCopy(s), true)
		other := plainCopy(s)
		if len(s.Chains) == 0 || r.IntN(8) == 0 {
			other.Mark++
			wantSame(t, s, other, false)
			continue
		}
		c := &other.Chains[r.IntN(len(s.Chains))]
		v := &c.L[r.IntN(len(c.L))]
		switch r.IntN(5) {
		case 0:
			c.Key += "x"
		case 1:
			c.L = c.L[1:]
		case 2:
			v.Pos++
		case 3:
			v.Val += "x"
		case 4:
			v.Gone = !v.Gone
		}
		wantSame(t, s, other, false)
	}
}
