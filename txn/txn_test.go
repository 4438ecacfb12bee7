package txn_test

import (
	"bytes"
	"math"
	"slices"
	"strings"
	"testing"

	"diwan/api"
	"diwan/txn"
)

// val16 has as many bytes as a Val may have.
const val16 = "0123456789abcdef"

// named is a transaction, and what is to be seen of it.
type named struct {
	what string
	t    api.Txn
}

// base may be, and has one of each kind; each call makes it anew.
func base() api.Txn {
	return api.Txn{
		Session: 3,
		Seq:     300,
		Reads: []api.Read{
			{Key: "a", Version: 300, Val: "one", There: true},
			{Key: "b", Version: 7},
			{Key: "c"},
		},
		Writes: []api.Write{
			{Key: "a", Val: "two"},
			{Key: "b", Gone: true},
			{Key: "c"},
		},
	}
}

// full has as much of all as may be.
func full() api.Txn {
	t := api.Txn{Session: api.MaxSession, Seq: api.MaxSeq}
	for i := range api.MaxReads {
		t.Reads = append(t.Reads, api.Read{Key: "1234567" + string(rune('a'+i)), Version: math.MaxInt - i, Val: val16, There: true})
	}
	for i := range api.MaxWrites {
		t.Writes = append(t.Writes, api.Write{Key: "~~~~~~~" + string(rune('a'+i)), Val: val16})
	}
	return t
}

// but is base, changed by turn.
func but(what string, turn func(*api.Txn)) named {
	t := base()
	turn(&t)
	return named{what, t}
}

// mays may be.
func mays() []named {
	l := []named{
		{"base", base()},
		{"full", full()},
		{"of nothing", api.Txn{Session: 1, Seq: 1}},
		{"of empty lists", api.Txn{Session: 1, Seq: 1, Reads: []api.Read{}, Writes: []api.Write{}}},
		{"of one write", api.Txn{Session: 1, Seq: 1, Writes: []api.Write{{Key: "a", Val: "x"}}}},
		{"of one read", api.Txn{Session: 1, Seq: 1, Reads: []api.Read{{Key: "a"}}}},
		but("Val of what is there is nothing", func(t *api.Txn) { t.Reads[0].Val = "" }),
		but("Val read of MaxVal bytes", func(t *api.Txn) { t.Reads[0].Val = val16 }),
		but("Val written of MaxVal bytes", func(t *api.Txn) { t.Writes[2].Val = val16 }),
		but("Val of any bytes", func(t *api.Txn) { t.Reads[0].Val, t.Writes[0].Val = "\x00\xff \x7f\n", "\x80\x01" }),
		but("there at 1", func(t *api.Txn) { t.Reads[0].Version = 1 }),
		but("there at the greatest", func(t *api.Txn) { t.Reads[0].Version = math.MaxInt }),
		but("not there at the greatest", func(t *api.Txn) { t.Reads[1].Version = math.MaxInt }),
		but("not there at 0", func(t *api.Txn) { t.Reads[1].Version = 0 }),
		but("keys of all bytes that may be", func(t *api.Txn) { t.Reads[0].Key, t.Writes[2].Key = "!", "~~~~~~~~" }),
	}
	for _, v := range []int{1, 2, api.MaxSession - 1, api.MaxSession} {
		l = append(l, but("Session", func(t *api.Txn) { t.Session = v }))
	}
	for _, v := range []int{1, 2, 127, 128, api.MaxSeq - 1, api.MaxSeq} {
		l = append(l, but("Seq", func(t *api.Txn) { t.Seq = v }))
	}
	for n := range api.MaxReads + 1 {
		l = append(l, named{"so many Reads", api.Txn{Session: 1, Seq: 1, Reads: full().Reads[:n]}})
	}
	for n := range api.MaxWrites + 1 {
		l = append(l, named{"so many Writes", api.Txn{Session: 1, Seq: 1, Writes: full().Writes[:n]}})
	}
	return l
}

// noNumbers have a number that may not be.
func noNumbers() []named {
	var l []named
	for _, v := range []int{0, -1, -9, api.MaxSession + 1, 128, 256 + 1, 1<<32 + 1, math.MaxInt, math.MinInt} {
		l = append(l, but("Session", func(t *api.Txn) { t.Session = v }))
	}
	for _, v := range []int{0, -1, -300, api.MaxSeq + 1, 1<<16 + 1, 1<<32 + 1, math.MaxInt, math.MinInt} {
		l = append(l, but("Seq", func(t *api.Txn) { t.Seq = v }))
	}
	for _, v := range []int{0, -1, -300, math.MinInt} {
		l = append(l, but("Version of what is there", func(t *api.Txn) { t.Reads[0].Version = v }))
	}
	for _, v := range []int{-1, -300, math.MinInt} {
		l = append(l, but("Version of what is not there", func(t *api.Txn) { t.Reads[2].Version = v }))
	}
	return l
}

// noVals have a Val that may not be.
func noVals() []named {
	var l []named
	for _, v := range []string{val16 + "g", strings.Repeat("x", 255), strings.Repeat("x", 256), strings.Repeat("x", 1<<16), strings.Repeat("\u00e4", 9)} {
		l = append(l, but("Val read", func(t *api.Txn) { t.Reads[0].Val = v }))
		l = append(l, but("Val written", func(t *api.Txn) { t.Writes[0].Val = v }))
	}
	for _, v := range []string{"x", "\x00", val16, val16 + "g"} {
		l = append(l, but("Val of what is not there", func(t *api.Txn) { t.Reads[1].Val = v }))
		l = append(l, but("Val of what never was", func(t *api.Txn) { t.Reads[2].Val = v }))
		l = append(l, but("Val of what is gone", func(t *api.Txn) { t.Writes[1].Val = v }))
	}
	return l
}

// noKeys have keys that may not be, or do not rise.
func noKeys() []named {
	l := []named{
		but("Reads' keys fall", func(t *api.Txn) { slices.Reverse(t.Reads) }),
		but("Writes' keys fall", func(t *api.Txn) { slices.Reverse(t.Writes) }),
	}
	for i := range 3 {
		for _, k := range []string{"", " ", "a b", "\x7f", "b\x00", "a\xff", "123456789"} {
			l = append(l, but("a key read", func(t *api.Txn) { t.Reads[i].Key = k }))
			l = append(l, but("a key written", func(t *api.Txn) { t.Writes[i].Key = k }))
		}
		j := (i + 1) % 3
		l = append(l, but("a key read twice", func(t *api.Txn) { t.Reads[i].Key = t.Reads[j].Key }))
		l = append(l, but("a key written twice", func(t *api.Txn) { t.Writes[i].Key = t.Writes[j].Key }))
		l = append(l, but("two keys read changed places", func(t *api.Txn) { t.Reads[i], t.Reads[j] = t.Reads[j], t.Reads[i] }))
		l = append(l, but("two keys written changed places", func(t *api.Txn) { t.Writes[i], t.Writes[j] = t.Writes[j], t.Writes[i] }))
	}
	return l
}

// noSizes have more than may be.
func noSizes() []named {
	var l []named
	for _, n := range []int{1, 2, 90} {
		l = append(l, but("Reads", func(t *api.Txn) { t.Reads = rows(n, api.MaxReads, newRead) }))
		l = append(l, but("Writes", func(t *api.Txn) { t.Writes = rows(n, api.MaxWrites, newWrite) }))
	}
	l = append(l, but("Reads", func(t *api.Txn) { t.Reads = append(full().Reads, api.Read{Key: "~"}) }))
	l = append(l, but("Writes", func(t *api.Txn) { t.Writes = append(full().Writes, api.Write{Key: "~~~~~~~~"}) }))
	return l
}

func newRead(k string) api.Read { return api.Read{Key: k} }

func newWrite(k string) api.Write { return api.Write{Key: k} }

// rows makes most and n more, of keys that rise.
func rows[T any](n, most int, one func(string) T) []T {
	var l []T
	for i := range most + n {
		l = append(l, one(string([]byte{'k', byte(33 + i/90), byte(33 + i%90)})))
	}
	return l
}

// noes may not be.
func noes() []named {
	return slices.Concat([]named{{"of nothing at all", api.Txn{}}}, noNumbers(), noVals(), noKeys(), noSizes())
}

// all are both.
func all() []named {
	return slices.Concat(mays(), noes())
}

// plainKeys: do they rise, and may each be?
func plainKeys(l []string) bool {
	for i, k := range l {
		if len(k) < 1 || len(k) > 8 || i > 0 && bytes.Compare([]byte(l[i-1]), []byte(k)) >= 0 {
			return false
		}
		for j := 0; j < len(k); j++ {
			if k[j] < 33 || k[j] > 126 {
				return false
			}
		}
	}
	return true
}

// plainMay is P5.1's word on May.
func plainMay(t api.Txn) bool {
	if t.Session < 1 || t.Session > 9 || t.Seq < 1 || t.Seq > 1000 || len(t.Reads) > 6 || len(t.Writes) > 4 {
		return false
	}
	var readKeys, writeKeys []string
	for _, r := range t.Reads {
		readKeys = append(readKeys, r.Key)
		if r.Version < 0 || len(r.Val) > 16 || !r.There && len(r.Val) > 0 || r.There && r.Version == 0 {
			return false
		}
	}
	for _, w := range t.Writes {
		writeKeys = append(writeKeys, w.Key)
		if len(w.Val) > 16 || w.Gone && len(w.Val) > 0 {
			return false
		}
	}
	return plainKeys(readKeys) && plainKeys(writeKeys)
}

// copyOf shares nothing with t.
func copyOf(t api.Txn) api.Txn {
	t.Reads, t.Writes = slices.Clone(t.Reads), slices.Clone(t.Writes)
	return t
}

func TestLimits(t *testing.T) {
	if api.MaxSession != 9 || api.MaxSeq != 1000 || api.MaxReads != 6 || api.MaxWrites != 4 || api.MaxVal != 16 || api.MaxKey != 8 {
		t.Fatal("these tests are for other limits")
	}
}

func TestMay(t *testing.T) {
	for _, x := range mays() {
		if !txn.May(x.t) || !plainMay(x.t) {
			t.Errorf("%s: %+v may be", x.what, x.t)
		}
	}
	for _, x := range noes() {
		if txn.May(x.t) || plainMay(x.t) {
			t.Errorf("%s: %+v may not be", x.what, x.t)
		}
	}
}

// TestMayEachPlace: what may not be is seen at each place of a list that is full.
func TestMayEachPlace(t *testing.T) {
	for i := range api.MaxReads {
		for _, turn := range []func(*api.Read){
			func(r *api.Read) { r.Version = 0 },
			func(r *api.Read) { r.Version = -1 },
			func(r *api.Read) { r.There = false },
			func(r *api.Read) { r.Val += "x" },
			func(r *api.Read) { r.Key += "x" },
			func(r *api.Read) { r.Key = "" },
		} {
			x := full()
			turn(&x.Reads[i])
			if txn.May(x) {
				t.Errorf("Read %d: %+v may not be", i, x.Reads[i])
			}
		}
	}
	for i := range api.MaxWrites {
		for _, turn := range []func(*api.Write){
			func(w *api.Write) { w.Gone = true },
			func(w *api.Write) { w.Val += "x" },
			func(w *api.Write) { w.Key += "x" },
			func(w *api.Write) { w.Key = "" },
		} {
			x := full()
			turn(&x.Writes[i])
			if txn.May(x) {
				t.Errorf("Write %d: %+v may not be", i, x.Writes[i])
			}
		}
	}
}

// TestMayEachRead: each Version, There and Val that stands at an edge, with each other.
func TestMayEachRead(t *testing.T) {
	for _, version := range []int{math.MinInt, -1, 0, 1, math.MaxInt} {
		for n := range 20 {
			for _, yes := range []bool{false, true} {
				val := strings.Repeat("v", n)
				x := api.Txn{Session: 1, Seq: 1, Reads: []api.Read{{Key: "k", Version: version, Val: val, There: yes}}}
				want := yes && version >= 1 && n <= 16 || !yes && version >= 0 && n == 0
				if got := txn.May(x); got != want {
					t.Errorf("%+v: %v", x, got)
				}
				x = api.Txn{Session: 1, Seq: 1, Writes: []api.Write{{Key: "k", Val: val, Gone: yes}}}
				if got := txn.May(x); got != (n == 0 || !yes && n <= 16) {
					t.Errorf("%+v: %v", x, got)
				}
			}
		}
	}
}

// TestMayEachNumber: each Session with each Seq.
func TestMayEachNumber(t *testing.T) {
	for session := -3; session <= 300; session++ {
		for _, seq := range []int{-1, 0, 1, 2, 500, 999, 1000, 1001, 1256} {
			want := 1 <= session && session <= 9 && 1 <= seq && seq <= 1000
			if got := txn.May(api.Txn{Session: session, Seq: seq}); got != want {
				t.Errorf("Session %d, Seq %d: %v", session, seq, got)
			}
		}
	}
	for seq := -3; seq <= 1300; seq++ {
		if got := txn.May(api.Txn{Session: 9, Seq: seq}); got != (1 <= seq && seq <= 1000) {
			t.Errorf("Seq %d: %v", seq, got)
		}
	}
}

// TestMayReadAndWritten: Reads and Writes stand each for themselves: a key may be among both, and one list's keys need not be above the other's.
func TestMayReadAndWritten(t *testing.T) {
	for _, x := range []string{"a", "b", "~"} {
		for _, y := range []string{"a", "b", "~"} {
			if !txn.May(api.Txn{Session: 1, Seq: 1, Reads: []api.Read{{Key: x}}, Writes: []api.Write{{Key: y}}}) {
				t.Errorf("%s is read, %s is written: that may be", x, y)
			}
		}
	}
}

// turns are changes, each of one thing in base.
func turns() []func(*api.Txn) {
	return []func(*api.Txn){
		func(t *api.Txn) { t.Session++ },
		func(t *api.Txn) { t.Seq++ },
		func(t *api.Txn) { t.Session, t.Seq = t.Seq, t.Session },
		func(t *api.Txn) { t.Reads = t.Reads[:2] },
		func(t *api.Txn) { t.Reads = t.Reads[1:] },
		func(t *api.Txn) { t.Reads = nil },
		func(t *api.Txn) { t.Reads = append(t.Reads, api.Read{}) },
		func(t *api.Txn) { t.Reads[0], t.Reads[1] = t.Reads[1], t.Reads[0] },
		func(t *api.Txn) { t.Reads[0].Key = "b" },
		func(t *api.Txn) { t.Reads[0].Version++ },
		func(t *api.Txn) { t.Reads[0].Val = "One" },
		func(t *api.Txn) { t.Reads[0].Val = "" },
		func(t *api.Txn) { t.Reads[0].There = false },
		func(t *api.Txn) { t.Reads[1].There = true },
		func(t *api.Txn) { t.Reads[2].Key = "d" },
		func(t *api.Txn) { t.Reads[2].Version = -1 },
		func(t *api.Txn) { t.Reads[2].There = true },
		func(t *api.Txn) { t.Writes = t.Writes[:2] },
		func(t *api.Txn) { t.Writes = t.Writes[1:] },
		func(t *api.Txn) { t.Writes = []api.Write{} },
		func(t *api.Txn) { t.Writes = append(t.Writes, api.Write{}) },
		func(t *api.Txn) { t.Writes[0], t.Writes[1] = t.Writes[1], t.Writes[0] },
		func(t *api.Txn) { t.Writes[0].Key = "" },
		func(t *api.Txn) { t.Writes[0].Val = "one" },
		func(t *api.Txn) { t.Writes[0].Gone = true },
		func(t *api.Txn) { t.Writes[1].Gone = false },
		func(t *api.Txn) { t.Writes[2].Key = "a" },
		func(t *api.Txn) { t.Writes[2].Val = "\x00" },
		func(t *api.Txn) { t.Writes[2].Gone = true },
	}
}

func TestSame(t *testing.T) {
	for _, x := range all() {
		if !txn.Same(x.t, x.t) || !txn.Same(x.t, copyOf(x.t)) || !txn.Same(copyOf(x.t), x.t) {
			t.Errorf("%s: %+v is not the same as itself", x.what, x.t)
		}
	}
	for i, turn := range turns() {
		x := base()
		turn(&x)
		if txn.Same(x, base()) || txn.Same(base(), x) {
			t.Errorf("change %d is not seen: %+v", i, x)
		}
		for j, other := range turns() {
			y := base()
			other(&y)
			if got := txn.Same(x, y); got != (i == j) {
				t.Errorf("changes %d and %d: %v", i, j, got)
			}
		}
	}
}

// TestSameOfNothing: nil and an empty list are one, and spare room is none of it.
func TestSameOfNothing(t *testing.T) {
	var reads [][]api.Read
	var writes [][]api.Write
	reads = append(reads, nil, []api.Read{}, make([]api.Read, 0, 3), base().Reads[:0])
	writes = append(writes, nil, []api.Write{}, make([]api.Write, 0, 3), base().Writes[:0])
	for _, a := range reads {
		for _, b := range reads {
			for _, c := range writes {
				for _, d := range writes {
					if !txn.Same(api.Txn{Reads: a, Writes: c}, api.Txn{Reads: b, Writes: d}) {
						t.Error("nil and an empty list are one")
					}
				}
			}
		}
	}
	x, y := base(), base()
	x.Reads, y.Reads = x.Reads[:2], append(y.Reads[:2:2], full().Reads...)[:2]
	x.Writes, y.Writes = x.Writes[:2], append(y.Writes[:2:2], full().Writes...)[:2]
	if !txn.Same(x, y) {
		t.Error("what stands in the room behind a list does not count")
	}
}

// plainShard is P4.1's word on Shard, of texts that are not long.
func plainShard(k string, n int) int {
	if n < 1 {
		return 0
	}
	sum := 0
	for i := 0; i < len(k); i++ {
		sum += int(k[i])
	}
	return sum % n
}

// plainReads is P5.1's word on Reads.
func plainReads(t api.Txn, n int) []int {
	var l []int
	for s := range 256 * 8 {
		if slices.ContainsFunc(t.Reads, func(r api.Read) bool { return plainShard(r.Key, n) == s }) {
			l = append(l, s)
		}
	}
	return l
}

// plainTouches is P5.1's word on Touches.
func plainTouches(t api.Txn, s, n int) bool {
	yes := false
	for _, r := range t.Reads {
		yes = yes || plainShard(r.Key, n) == s
	}
	for _, w := range t.Writes {
		yes = yes || plainShard(w.Key, n) == s
	}
	return yes
}

// of is a transaction that reads and writes these keys, each a byte.
func of(reads, writes string) api.Txn {
	t := api.Txn{Session: 1, Seq: 1}
	for _, c := range []byte(reads) {
		t.Reads = append(t.Reads, api.Read{Key: string([]byte{c})})
	}
	for _, c := range []byte(writes) {
		t.Writes = append(t.Writes, api.Write{Key: string([]byte{c})})
	}
	return t
}

// shardCounts are how many shards there may be, and how many there may not.
var shardCounts = []int{math.MinInt, -300, -3, -1, 0, 1, 2, 3, 4, 5, 7, 97, 98, 99, 100, 1000, math.MaxInt32, math.MaxInt}

func TestReads(t *testing.T) {
	// a, b and c are 97, 98 and 99.
	for _, x := range []struct {
		reads, writes string
		n             int
		want          []int
	}{
		{"", "", 3, nil},
		{"", "abc", 3, nil}, // what is written does not count
		{"a", "", 3, []int{1}},
		{"a", "bc", 3, []int{1}},
		{"abc", "", 3, []int{0, 1, 2}},
		{"ab", "", 3, []int{1, 2}},
		{"bc", "", 3, []int{0, 2}}, // rising, though the keys come the other way
		{"ad", "", 3, []int{1}},    // each once
		{"abcdef", "", 3, []int{0, 1, 2}},
		{"abcdef", "", 2, []int{0, 1}},
		{"ace", "", 2, []int{1}},
		{"abc", "", 1, []int{0}},
		{"abc", "", 98, []int{0, 1, 97}},
		{"abc", "", 1000, []int{97, 98, 99}},
		{"abc", "", math.MaxInt, []int{97, 98, 99}},
		{"abc", "", 0, []int{0}}, // below 1: all is of shard 0
		{"abc", "", -1, []int{0}},
		{"abc", "", math.MinInt, []int{0}},
		{"", "abc", 0, nil},
		{"", "", math.MinInt, nil},
	} {
		if got := txn.Reads(of(x.reads, x.writes), x.n); !slices.Equal(got, x.want) {
			t.Errorf("Reads of %q, %q and %d shards: %v, want %v", x.reads, x.writes, x.n, got, x.want)
		}
	}
	for _, x := range all() {
		for _, n := range shardCounts {
			if got, want := txn.Reads(x.t, n), plainReads(x.t, n); !slices.Equal(got, want) {
				t.Errorf("%s: Reads(%+v, %d) = %v, want %v", x.what, x.t, n, got, want)
			}
		}
	}
}

func TestTouches(t *testing.T) {
	for _, x := range []struct {
		reads, writes string
		s, n          int
		want          bool
	}{
		{"", "", 0, 3, false},
		{"", "", 0, 0, false}, // no key, so none of shard 0
		{"", "", 0, 1, false},
		{"a", "", 1, 3, true},
		{"a", "", 0, 3, false},
		{"a", "", 2, 3, false},
		{"", "a", 1, 3, true}, // what is written counts, too
		{"", "a", 0, 3, false},
		{"a", "b", 1, 3, true},
		{"a", "b", 2, 3, true},
		{"a", "b", 0, 3, false},
		{"abc", "", 0, 3, true}, // the last one read
		{"", "abc", 0, 3, true}, // the last one written
		{"a", "", 3, 3, false},  // no such shard
		{"a", "", 4, 3, false},
		{"a", "", -1, 3, false},
		{"a", "", -2, 3, false},
		{"a", "", 97, 3, false},
		{"a", "", 97, 98, true},
		{"a", "", 97, math.MaxInt, true},
		{"a", "", 0, 0, true}, // below 1: all is of shard 0
		{"", "a", 0, -1, true},
		{"a", "", 0, math.MinInt, true},
		{"a", "b", 1, 0, false},
		{"a", "b", -1, -1, false},
		{"a", "b", math.MinInt, math.MinInt, false},
	} {
		if got := txn.Touches(of(x.reads, x.writes), x.s, x.n); got != x.want {
			t.Errorf("Touches of %q, %q, shard %d of %d: %v", x.reads, x.writes, x.s, x.n, got)
		}
	}
	for _, x := range all() {
		for _, n := range shardCounts {
			for _, s := range []int{math.MinInt, -3, -1, 0, 1, 2, 3, 97, 98, 99, math.MaxInt} {
				if got, want := txn.Touches(x.t, s, n), plainTouches(x.t, s, n); got != want {
					t.Errorf("%s: Touches(%+v, %d, %d) = %v", x.what, x.t, s, n, got)
				}
			}
		}
	}
}

// TestReadsAreTouched: whose key is read is touched.
func TestReadsAreTouched(t *testing.T) {
	for _, x := range all() {
		for _, n := range shardCounts {
			for _, s := range txn.Reads(x.t, n) {
				if !txn.Touches(x.t, s, n) {
					t.Errorf("%s: shard %d of %d is read, not touched", x.what, s, n)
				}
			}
		}
	}
}

func TestReadsAreNewMemory(t *testing.T) {
	x := of("abc", "")
	one, other := txn.Reads(x, 1000), txn.Reads(x, 1000)
	for i := range one[:cap(one)] {
		one[:cap(one)][i] = -1
	}
	if !slices.Equal(other, []int{97, 98, 99}) || !slices.Equal(txn.Reads(x, 1000), other) {
		t.Errorf("two answers share memory: %v", other)
	}
}

// TestWhatIsHandedInStays: and so does the room behind its lists.
func TestWhatIsHandedInStays(t *testing.T) {
	for _, x := range all() {
		reads := append(slices.Clone(x.t.Reads), api.Read{Key: "spare"})
		writes := append(slices.Clone(x.t.Writes), api.Write{Key: "spare"})
		in := x.t
		in.Reads, in.Writes = reads[:len(x.t.Reads)], writes[:len(x.t.Writes)]
		txn.May(in)
		txn.Same(in, in)
		txn.Reads(in, 3)
		txn.Touches(in, 1, 3)
		txn.Put(in)
		if !slices.Equal(in.Reads, x.t.Reads) || !slices.Equal(in.Writes, x.t.Writes) || reads[len(in.Reads)].Key != "spare" || writes[len(in.Writes)].Key != "spare" {
			t.Errorf("%s: %+v is now %+v, %+v", x.what, x.t, reads, writes)
		}
	}
}
