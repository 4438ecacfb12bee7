package key_test

import (
	"bytes"
	"math"
	"math/big"
	"slices"
	"strings"
	"testing"

	"diwan/api"
	"diwan/key"
)

// keys may be.
var keys = []string{
	"a", "Z", "0", "!", "~",
	"!!", "~~", "!~", "ab", "a/b:c", "\"", "\\", "{}", "%00",
	"1234567", "12345678", "!!!!!!!!", "~~~~~~~~", "a!b~c\"d}",
}

// noKeys may not be.
var noKeys = []string{
	"",
	"123456789", "!!!!!!!!!", "~~~~~~~~~", strings.Repeat("a", 16), strings.Repeat("a", 255), strings.Repeat("a", 256), strings.Repeat("a", 264), strings.Repeat("a", 1<<16+1),
	" ", "\x7f", "\x00", "\x1f", "\x80", "\x9f", "\xa0", "\xff", "\t", "\n",
	" a", "a ", "a b", "\x7fa", "a\x7f", "a\x7fb", "a\x00", "a\n",
	"1234567 ", "1234567\x7f", " 2345678", "\x7f2345678"[:8], "1234 678", "1234\x7f678", "        ", "\x7f\x7f",
	"\u00e4", "h\u00e4lf", "\u2215", "\u0121", "\xa1", "\xfe", // a rune's lowest bits, or a byte's lowest seven, may be
}

// mixed are texts of all kinds, keys and others.
func mixed() []string {
	return slices.Concat(keys, noKeys, []string{"aa", "ba", "b", "c", "A", "a!", "a~", "a\x00", "\xff\xff", "\xc3", "zz"})
}

// plainMay is P4.1's word on May.
func plainMay(k string) bool {
	n := 0
	for i := 0; i < len(k); i++ {
		if int(k[i]) >= 33 && int(k[i]) <= 126 {
			n++
		}
	}
	return n == len(k) && n >= 1 && n <= 8
}

// plainShard is P4.1's word on Shard, in numbers that have no end.
func plainShard(k string, n int) int {
	if n <= 0 {
		return 0
	}
	sum := new(big.Int)
	for i := 0; i < len(k); i++ {
		sum.Add(sum, big.NewInt(int64(k[i])))
	}
	return int(sum.Mod(sum, big.NewInt(int64(n))).Int64())
}

// plainWithin is P4.1's word on Within.
func plainWithin(k, from, to string) bool {
	notAbove := bytes.Compare([]byte(from), []byte(k)) <= 0
	below := len(to) == 0 || bytes.Compare([]byte(k), []byte(to)) == -1
	return notAbove && below
}

// plainRising is P4.1's word on Rising.
func plainRising(l []string) bool {
	for i, k := range l {
		if !plainMay(k) || i > 0 && bytes.Compare([]byte(k), []byte(l[i-1])) != 1 {
			return false
		}
	}
	return true
}

func wantMay(t *testing.T, k string) {
	t.Helper()
	if got, want := key.May(k), plainMay(k); got != want {
		t.Errorf("May(%q) = %v, want %v", k, got, want)
	}
}

func wantShard(t *testing.T, k string, n int) {
	t.Helper()
	if got, want := key.Shard(k, n), plainShard(k, n); got != want {
		t.Errorf("Shard(%.40q, of %d bytes, %d) = %d, want %d", k, len(k), n, got, want)
	}
}

func wantWithin(t *testing.T, k, from, to string) {
	t.Helper()
	if got, want := key.Within(k, from, to), plainWithin(k, from, to); got != want {
		t.Errorf("Within(%.40q, %.40q, %.40q) = %v, want %v", k, from, to, got, want)
	}
}

func wantRising(t *testing.T, l ...string) {
	t.Helper()
	if got, want := key.Rising(l), plainRising(l); got != want {
		t.Errorf("Rising(%.200q) = %v, want %v", l, got, want)
	}
}

func TestLimits(t *testing.T) {
	if api.MaxKey != 8 {
		t.Fatalf("MaxKey is %d: these tests are for 8", api.MaxKey)
	}
}

func TestMay(t *testing.T) {
	for _, k := range keys {
		if !key.May(k) {
			t.Errorf("%q may be", k)
		}
	}
	for _, k := range noKeys {
		if key.May(k) {
			t.Errorf("%.40q, of %d bytes, may not be", k, len(k))
		}
	}
}

// TestMayEachByte: each byte, at each place of a key of each length.
func TestMayEachByte(t *testing.T) {
	for n := 1; n <= api.MaxKey+1; n++ {
		for at := range n {
			for c := range 256 {
				b := bytes.Repeat([]byte{'k'}, n)
				b[at] = byte(c)
				if got, want := key.May(string(b)), n <= 8 && 33 <= c && c <= 126; got != want {
					t.Errorf("May(%q) = %v, byte %d is %d", b, got, at, c)
				}
			}
		}
	}
}

// TestMayTwoBytes: one byte that may be does not make up for one that may not.
func TestMayTwoBytes(t *testing.T) {
	for i := range 1 << 16 {
		wantMay(t, string([]byte{byte(i), byte(i >> 8)}))
	}
}

func TestMayEachLength(t *testing.T) {
	for n := range 300 {
		for _, c := range []string{"!", "a", "~", " ", "\x7f"} {
			wantMay(t, strings.Repeat(c, n))
		}
	}
}

func TestShard(t *testing.T) {
	for _, x := range []struct {
		k       string
		n, want int
	}{
		{"a", 3, 1},
		{"a", 1, 0},
		{"a", 2, 1},
		{"b", 3, 2},
		{"c", 3, 0},
		{"ab", 3, 0},
		{"ba", 3, 0},
		{"aaa", 3, 0},
		{"!", 2, 1},
		{"~", 2, 0},
		{"~~~~~~~~", 3, 0},
		{"~~~~~~~~", 5, 3},
		{"a", 97, 0},
		{"a", 98, 97},
		{"a", 96, 1},
		{"~~~~~~~~", 1009, 1008}, // a sum of more than a byte
		{"~~~~~~~~", 1008, 0},
		{"~~~~~~~~", math.MaxInt, 1008},
		{"", 1, 0},
		{"", 3, 0},
		{"\xff", 256, 255}, // bytes stand above 127 as they are
		{"\xff\xff", 1000, 510},
		{"\u00e4", 1000, 0xC3 + 0xA4}, // bytes, not runes
	} {
		if got := key.Shard(x.k, x.n); got != x.want {
			t.Errorf("Shard(%q, %d) = %d, want %d", x.k, x.n, got, x.want)
		}
		wantShard(t, x.k, x.n)
	}
}

func TestShardOfFewerThanOne(t *testing.T) {
	for _, n := range []int{0, -1, -2, -3, -97, -256, math.MinInt32, math.MinInt + 1, math.MinInt} {
		for _, k := range mixed() {
			if got := key.Shard(k, n); got != 0 {
				t.Errorf("Shard(%.40q, %d) = %d, want 0", k, n, got)
			}
		}
	}
}

func TestShardOfEach(t *testing.T) {
	for _, k := range mixed() {
		for n := -5; n <= 300; n++ {
			wantShard(t, k, n)
		}
		for _, n := range []int{1<<16 + 1, math.MaxInt32, math.MaxInt - 1, math.MaxInt} {
			wantShard(t, k, n)
		}
	}
	for i := range 1 << 16 {
		for n := 1; n <= api.MaxShards; n++ {
			wantShard(t, string([]byte{byte(i), byte(i >> 8)}), n)
		}
	}
}

// TestShardOfMuch: a sum that no small number holds.
func TestShardOfMuch(t *testing.T) {
	for _, size := range []int{1 << 8, 1 << 16, 1 << 24, 1<<24 + 1<<18} {
		k := strings.Repeat("\xff", size)
		for _, n := range []int{1, 2, 3, 255, 1 << 8, 1 << 16, math.MaxInt32, 255*size - 1, 255 * size, 255*size + 1, math.MaxInt} {
			if got, want := key.Shard(k, n), 255*size%n; got != want {
				t.Errorf("Shard of %d bytes 255, %d: %d, want %d", size, n, got, want)
			}
		}
	}
}

// TestEachKeyIsOfOneShard: and of one that is there.
func TestEachKeyIsOfOneShard(t *testing.T) {
	for n := 1; n <= api.MaxShards; n++ {
		seen := make([]int, n)
		for c := byte(33); c <= 126; c++ {
			for d := byte(33); d <= 126; d++ {
				s := key.Shard(string([]byte{c, d}), n)
				if s < 0 || s >= n {
					t.Fatalf("shard %d of %d", s, n)
				}
				if again := key.Shard(string([]byte{c, d}), n); again != s {
					t.Fatalf("shard %d, then %d", s, again)
				}
				seen[s]++
			}
		}
		if slices.Contains(seen, 0) {
			t.Errorf("of %d shards some have no key: %v", n, seen)
		}
	}
}

func TestWithin(t *testing.T) {
	for _, x := range []struct {
		k, from, to string
		want        bool
	}{
		{"b", "a", "c", true},
		{"a", "a", "c", true},  // from itself is
		{"c", "a", "c", false}, // to itself is not
		{"b", "b", "b", false},
		{"b", "b", "c", true},
		{"b", "c", "a", false},
		{"b", "c", "d", false},
		{"d", "a", "c", false},
		{"a", "", "", true}, // no begin, no end
		{"~~~~~~~~", "", "", true},
		{"", "", "", true},
		{"", "", "a", true},
		{"", "a", "", false},
		{"b", "b", "", true}, // no end
		{"z", "b", "", true},
		{"a", "b", "", false},
		{"\xff\xff", "b", "", true},
		{"b", "", "b", false},
		{"b", "", "c", true},
		{"b", "", "b!", true},
		// shorter ones stand ahead
		{"ab", "a", "b", true},
		{"a", "ab", "b", false},
		{"ab", "a", "ab", false},
		{"ab", "a", "abc", true},
		{"ab", "abc", "", false},
		// by bytes: not by length, not by case, not as numbers
		{"10", "1", "9", true},
		{"10", "9", "", false},
		{"B", "a", "", false},
		{"B", "A", "a", true},
		{"~", "z", "\x7f", true},
		{"\xff", "a", "\x7f", false}, // bytes have no sign
		{"\xff", "\x7f", "", true},
	} {
		if got := key.Within(x.k, x.from, x.to); got != x.want {
			t.Errorf("Within(%q, %q, %q) = %v", x.k, x.from, x.to, got)
		}
		wantWithin(t, x.k, x.from, x.to)
	}
}

func TestWithinOfEach(t *testing.T) {
	all := mixed()
	for _, k := range all {
		for _, from := range all {
			for _, to := range all {
				wantWithin(t, k, from, to)
			}
		}
	}
}

func TestWithinBytes(t *testing.T) {
	for c := range 256 {
		for d := range 256 {
			one, other := string([]byte{byte(c)}), string([]byte{byte(d)})
			if got := key.Within(one, other, ""); got != (c >= d) {
				t.Errorf("Within(%q, %q, no end) = %v", one, other, got)
			}
			if got := key.Within(one, "", other); got != (c < d) {
				t.Errorf("Within(%q, nothing, %q) = %v", one, other, got)
			}
		}
	}
}

func TestRising(t *testing.T) {
	for _, l := range [][]string{
		nil,
		{},
		{"a"},
		{"12345678"},
		{"!", "~"},
		{"a", "b"},
		{"a", "aa"},
		{"a", "a!"},
		{"A", "a"},
		{"Z", "a"},
		{"10", "9"},
		{"a", "b", "c"},
		{"!", "!!", "\"", "0", "A", "a", "aa", "b", "~", "~~~~~~~~"},
	} {
		if !key.Rising(l) {
			t.Errorf("%q is rising", l)
		}
		wantRising(t, l...)
	}
}

func TestNotRising(t *testing.T) {
	for _, l := range [][]string{
		{"a", "a"}, // one is not above itself
		{"b", "a"},
		{"aa", "a"},
		{"a", "A"},
		{"9", "10"},
		{"a", "b", "b"},
		{"a", "a", "b"},
		{"a", "c", "b"},
		{"b", "a", "c"},
		{"c", "b", "a"},
		{"a", "b", "a"},
		{"a", "b", "a", "b"},
		{"b", "c", "a"},
		{"a", "b", "c", "d", "e", "f", "f"},
		// such as may not be, though they rise
		{""},
		{" "},
		{"\x7f"},
		{"123456789"},
		{"", "a"},
		{" ", "a"},
		{"a", "\x7f"},
		{"a", "b", "\x7f"},
		{"a", "a a", "b"},
		{"a", "b23456789"},
		{"a23456789", "b"},
		{"a", "b23456789", "c"},
		{"a", "\xff"},
		{"", ""},
	} {
		if key.Rising(l) {
			t.Errorf("%q is not rising", l)
		}
		wantRising(t, l...)
	}
}

func TestRisingOfOne(t *testing.T) {
	for _, k := range mixed() {
		if got, want := key.Rising([]string{k}), key.May(k); got != want {
			t.Errorf("Rising of %.40q alone: %v", k, got)
		}
	}
}

func TestRisingOfTwoAndThree(t *testing.T) {
	for _, a := range mixed() {
		for _, b := range mixed() {
			wantRising(t, a, b)
			wantRising(t, a, b, "~~~~~~~~")
			wantRising(t, "!", a, b)
			wantRising(t, a, "a", b)
		}
	}
}

// TestRisingOfMany: each row of keys that rises, and the same with one that does not, at each place.
func TestRisingOfMany(t *testing.T) {
	var row []string
	for i := range 200 {
		row = append(row, string([]byte{'k', byte(33 + i/90), byte(33 + i%90)}))
	}
	for n := range len(row) {
		if !key.Rising(row[:n]) {
			t.Errorf("%d rise", n)
		}
	}
	for i := range row {
		for _, k := range []string{"", " ", "k", row[i] + "123456", row[i] + "\x7f"} {
			l := slices.Clone(row)
			l[i] = k
			if got, want := key.Rising(l), k == "k" && i == 0; got != want {
				t.Errorf("key %d is %q: %v", i, k, got)
			}
		}
		if i > 0 {
			l := slices.Clone(row)
			l[i] = l[i-1]
			wantRising(t, l...)
			l[i], l[i-1] = row[i-1], row[i]
			wantRising(t, l...)
		}
	}
}

// TestWhatIsHandedInStays: and the room behind it is not looked at.
func TestWhatIsHandedInStays(t *testing.T) {
	room := []string{"ahead", "a", "b", "c", "b", "", "spare"}
	was := slices.Clone(room)
	for range 2 {
		if !key.Rising(room[1:4]) || key.Rising(room[1:5]) || key.Rising(room[1:6]) || !key.Rising(room[1:1]) {
			t.Error("of a part of a list it tells something else than of that part alone")
		}
	}
	if !slices.Equal(room, was) {
		t.Errorf("%q is now %q", was, room)
	}
}

func FuzzMay(f *testing.F) {
	for _, k := range mixed() {
		f.Add(k)
	}
	f.Fuzz(wantMay)
}

func FuzzShard(f *testing.F) {
	for i, k := range mixed() {
		f.Add(k, i-2)
	}
	f.Fuzz(wantShard)
}

func FuzzWithin(f *testing.F) {
	for _, k := range mixed() {
		f.Add(k, "a", "b")
		f.Add("ab", k, "")
		f.Add("ab", "", k)
	}
	f.Fuzz(wantWithin)
}

// FuzzRising: a list is a text that blanks part.
func FuzzRising(f *testing.F) {
	f.Add("")
	f.Add("a b c")
	f.Add("a aa b b")
	f.Add(strings.Join(keys, " "))
	f.Fuzz(func(t *testing.T, s string) {
		l := strings.Split(s, " ")
		wantRising(t, l...)
		slices.Sort(l)
		wantRising(t, l...)
		wantRising(t, slices.Compact(l)...)
	})
}
