package store_test

import (
	"math"
	"strings"
	"testing"

	"diwan/api"
)

func TestMay(t *testing.T) {
	for _, x := range []struct {
		s    string
		want bool
	}{
		// of nothing
		{"", true},
		{"0", true},
		// of one key
		{"0 a=1x", true},
		{"0 a=1", true},
		{"0 a=1!", true},
		{"0 a=1x,2y,5!,9z", true},
		{"0 !=1x", true},
		{"0 ~=1x", true},
		{"0 abcdefgh=1x", true},
		{"0 a=9223372036854775807x", true},
		{"0 a=1abcdefghijklmnop", true},
		// of several
		{"0 a=1x b=1x", true},
		{"0 a=9x b=1y", true}, // positions rise in each chain alone
		{"0 a=1x,4y b=2! c=3z", true},
		{"0 B=1x a=1x", true}, // by bytes
		{"0 10=1x 9=1x", true},
		{"0 a=1x aa=1x aaa=1x b=1x", true},
		{"0 !=1x 0=1x A=1x a=1x ~=1x", true},
		// keys that do not rise
		{"0 b=1x a=1x", false},
		{"0 a=1x B=1x", false},
		{"0 aa=1x a=1x", false},
		{"0 9=1x 10=1x", false},
		{"0 a=1x c=1x b=1x", false},
		{"0 b=1x a=1x c=1x", false},
		{"0 b=1x c=1x a=1x", false},
		{"0 a=1x b=1x d=1x c=1x", false},
		{"0 a=1x b=1x c=1x a=2x", false},
		// the same key twice
		{"0 a=1x a=1x", false},
		{"0 a=1x a=2x", false},
		{"0 a=1x b=1x b=2x c=1x", false},
		{"0 a=1x b=1x c=1x c=2x", false},
		// a key that may not be
		{"0 =1x", false},
		{"0 =1x a=1x", false},
		{"0 abcdefghi=1x", false},
		{"0 a=1x abcdefghi=1x", false},
		{"0 a=1x abcdefghi=1x b=1x", false},
		{"0 \x7f=1x", false},
		{"0 \x80=1x", false},
		{"0 \xff=1x", false},
		{"0 a\x00=1x", false},
		{"0 \x01=1x a=1x", false},
		{"0 a=1x a\xffb=1x b=1x", false},
		// a chain of no versions
		{"0 a", false},
		{"0 a= b=1x", false},
		{"0 a=1x b=", false},
		{"0 a=1x b= c=1x", false},
		{"0 a= b= c=", false},
		{"7 a=", false},
		// a chain that may not be
		{"0 a=0x", false},
		{"0 a=-1x", false},
		{"0 a=0!", false},
		{"0 a=2x,1y", false},
		{"0 a=2x,2y", false},
		{"0 a=1x,3y,2z", false},
		{"0 a=1!x", false},
		{"0 a=1x,2!y", false},
		{"0 a=1abcdefghijklmnopq", false},
		{"0 a=1x,2abcdefghijklmnopq", false},
		{"0 a=0x b=1x", false},
		{"0 a=1x b=0x", false},
		{"0 a=1x b=2x,1y c=1x", false},
		{"0 a=1x b=1x c=1!x", false},
		{"0 a=1x,-9223372036854775808y", false},
		// a Mark of 0, above and below
		{"1", true},
		{"1 a=1x", true},
		{"5 a=1x,9y b=3z", true},
		{"5 a=1x,2y,3z", true}, // Trim would leave some out
		{"600 a=1x", true},
		{"9223372036854775807", true},
		{"9223372036854775807 a=1x", true},
		{"-1", false},
		{"-1 a=1x", false},
		{"-2", false},
		{"-4294967296 a=1x", false},
		{"-9223372036854775808", false},
		{"-9223372036854775808 a=1x", false},
		// several faults
		{"-1 b=0x a=", false},
		{"-1 a= a=", false},
		{"-1 =", false},
	} {
		s := storeOf(x.s)
		wantMay(t, s, x.want)
		if plainMay(s) != x.want {
			t.Errorf("plainMay(%s) = %v", x.s, !x.want)
		}
	}
}

// TestMayOfNothing: however nothing is handed in.
func TestMayOfNothing(t *testing.T) {
	for _, l := range [][]api.Chain{nil, {}, make([]api.Chain, 0, 3), storeOf("0 b=1x a=1x").Chains[:0], storeOf("0 b=1x a=1x").Chains[2:]} {
		for _, mark := range []int{0, 1, -1, math.MaxInt, math.MinInt} {
			wantMay(t, api.Store{Chains: l, Mark: mark}, mark >= 0)
		}
	}
	for _, l := range [][]api.Version{nil, {}, make([]api.Version, 0, 3), storeOf("0 a=1x").Chains[0].L[:0]} {
		for at := range 3 {
			s := storeOf("0 a=1x b=1x c=1x")
			s.Chains[at].L = l
			wantMay(t, s, false)
		}
	}
}

// TestMayOfKeys: each byte at each place of a key, of each length.
func TestMayOfKeys(t *testing.T) {
	for n := 1; n <= 10; n++ {
		for at := range n {
			for b := range 256 {
				k := []byte(strings.Repeat("m", n))
				k[at] = byte(b)
				s := storeOf("0 x=1x")
				s.Chains[0].Key = string(k)
				wantMay(t, s, n <= 8 && b >= 33 && b <= 126)
			}
		}
		enough(t)
	}
	wantMay(t, api.Store{Chains: []api.Chain{{Key: strings.Repeat("k", 1<<20), L: []api.Version{{Pos: 1}}}}}, false)
	wantMay(t, api.Store{Chains: []api.Chain{{Key: strings.Repeat("k", 256), L: []api.Version{{Pos: 1}}}}}, false)
}

// TestMayOfTwoKeys: any two of names, one behind the other.
func TestMayOfTwoKeys(t *testing.T) {
	for i, a := range names() {
		for j, b := range names() {
			s := storeOf("0 x=1x y=2y")
			s.Chains[0].Key, s.Chains[1].Key = a, b
			wantMay(t, s, 0 < i && i < j)
		}
	}
}

// TestMayOfValues: of at most MaxVal bytes, and none where it is gone, in each of the chains.
func TestMayOfValues(t *testing.T) {
	for n := range 20 {
		for at := range 3 {
			for of := range 2 {
				s := storeOf("0 a=1x,2y b=1x,2! c=1!,2y")
				v := &s.Chains[at].L[of]
				v.Val, v.Gone = strings.Repeat("v", n), false
				wantMay(t, s, n <= api.MaxVal)
				v.Gone = true
				wantMay(t, s, n == 0)
			}
		}
	}
}

// many makes a store of so many keys, the k-th written at position k alone.
func many(n int) api.Store {
	const digits = "0123456789"
	var s api.Store
	for k := 1; k <= n; k++ {
		name := []byte("k000000")
		for at, v := len(name)-1, k; v > 0; at, v = at-1, v/10 {
			name[at] = digits[v%10]
		}
		s.Chains = append(s.Chains, api.Chain{Key: string(name), L: []api.Version{{Pos: k, Val: "v"}}})
	}
	return s
}

// TestMayOfMany: far more than one transaction writes, with a fault at one of them.
func TestMayOfMany(t *testing.T) {
	const all = 600
	for at := -1; at < all; at++ {
		enough(t)
		s := many(all)
		if at >= 0 {
			c := &s.Chains[at]
			switch at % 5 {
			case 0:
				c.Key = "zz"
				if at == all-1 {
					c.Key = "a"
				}
			case 1:
				c.Key = s.Chains[at-1].Key
			case 2:
				c.L = nil
			case 3:
				c.L[0].Pos = 0
			case 4:
				c.L[0].Gone = true
			}
		}
		wantMay(t, s, at < 0)
	}
}
