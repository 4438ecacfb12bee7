package ulog_test

import (
	"math"
	"slices"
	"testing"

	"diwan/api"
	"diwan/ulog"
)

// change turns an entry that logOf made into one that is unlike it in just one thing.
type change struct {
	what string
	turn func(*api.Entry)
}

// unlike are changes, at least one of each part of an entry.
func unlike() []change {
	l := []change{
		{"Seal", func(e *api.Entry) { e.Seal = !e.Seal }},
		{"all that it carries", func(e *api.Entry) { e.T = api.Txn{} }},
		{"Reads and Writes", func(e *api.Entry) { e.T.Reads, e.T.Writes = nil, nil }},
	}
	for _, v := range []int{1, -1, 2, 1 << 16, 1 << 32, math.MinInt} {
		l = append(l,
			change{"Term", func(e *api.Entry) { e.Term += v }},
			change{"Session", func(e *api.Entry) { e.T.Session += v }},
			change{"Seq", func(e *api.Entry) { e.T.Seq += v }},
			change{"Version of the first Read", func(e *api.Entry) { e.T.Reads[0].Version += v }},
			change{"Version of the last Read", func(e *api.Entry) { e.T.Reads[1].Version += v }})
	}
	return slices.Concat(l, unlikeReads(), unlikeWrites())
}

func unlikeReads() []change {
	l := []change{
		{"no Reads", func(e *api.Entry) { e.T.Reads = nil }},
		{"the last Read less", func(e *api.Entry) { e.T.Reads = e.T.Reads[:1] }},
		{"the first Read less", func(e *api.Entry) { e.T.Reads = e.T.Reads[1:] }},
		{"a Read of nothing more", func(e *api.Entry) { e.T.Reads = append(e.T.Reads, api.Read{}) }},
		{"the last Read twice", func(e *api.Entry) { e.T.Reads = append(e.T.Reads, e.T.Reads[1]) }},
		{"Reads the other way round", func(e *api.Entry) { slices.Reverse(e.T.Reads) }},
	}
	for i := range 2 {
		l = append(l,
			change{"There", func(e *api.Entry) { e.T.Reads[i].There = !e.T.Reads[i].There }},
			change{"a Read of nothing", func(e *api.Entry) { e.T.Reads[i] = api.Read{} }},
			change{"Read's Key is nothing", func(e *api.Entry) { e.T.Reads[i].Key = "" }},
			change{"Read's Key and Val", func(e *api.Entry) { e.T.Reads[i].Key, e.T.Reads[i].Val = "q", "r" }})
		for _, more := range []string{"x", "\x00", " ", "\xff"} {
			l = append(l,
				change{"Read's Key", func(e *api.Entry) { e.T.Reads[i].Key += more }},
				change{"Read's Val", func(e *api.Entry) { e.T.Reads[i].Val += more }})
		}
	}
	return append(l, change{"Key's end is Val's front", func(e *api.Entry) {
		r := &e.T.Reads[0]
		r.Key, r.Val = r.Key+r.Val[:1], r.Val[1:]
	}})
}

func unlikeWrites() []change {
	l := []change{
		{"no Writes", func(e *api.Entry) { e.T.Writes = nil }},
		{"the last Write less", func(e *api.Entry) { e.T.Writes = e.T.Writes[:1] }},
		{"the first Write less", func(e *api.Entry) { e.T.Writes = e.T.Writes[1:] }},
		{"a Write of nothing more", func(e *api.Entry) { e.T.Writes = append(e.T.Writes, api.Write{}) }},
		{"the last Write twice", func(e *api.Entry) { e.T.Writes = append(e.T.Writes, e.T.Writes[1]) }},
		{"Writes the other way round", func(e *api.Entry) { slices.Reverse(e.T.Writes) }},
	}
	for i := range 2 {
		l = append(l,
			change{"Gone", func(e *api.Entry) { e.T.Writes[i].Gone = !e.T.Writes[i].Gone }},
			change{"a Write of nothing", func(e *api.Entry) { e.T.Writes[i] = api.Write{} }},
			change{"Write's Key is nothing", func(e *api.Entry) { e.T.Writes[i].Key = "" }},
			change{"Write's Key and Val", func(e *api.Entry) { e.T.Writes[i].Key, e.T.Writes[i].Val = "q", "r" }})
		for _, more := range []string{"x", "\x00", " ", "\xff"} {
			l = append(l,
				change{"Write's Key", func(e *api.Entry) { e.T.Writes[i].Key += more }},
				change{"Write's Val", func(e *api.Entry) { e.T.Writes[i].Val += more }})
		}
	}
	return l
}

// wantSame holds Same to want, whichever of the two stands first.
func wantSame(t *testing.T, what string, a, b []api.Entry, want bool) {
	t.Helper()
	if got := ulog.Same(a, b); got != want {
		t.Errorf("%s: Same(%+v, %+v) = %v", what, a, b, got)
	}
	if got := ulog.Same(b, a); got != want {
		t.Errorf("%s: Same(%+v, %+v) = %v", what, b, a, got)
	}
	if plainSame(a, b) != want {
		t.Errorf("%s: plainSame(%+v, %+v) = %v", what, a, b, !want)
	}
}

// TestSameOfEach: each log is like itself alone.
func TestSameOfEach(t *testing.T) {
	for _, s := range logs() {
		for _, r := range logs() {
			wantSame(t, "of two", logOf(s), logOf(r), s == r)
		}
	}
}

func TestSameOfUnlikeLengths(t *testing.T) {
	for _, s := range []string{"1a", "1a 1b", "1a 1a 1a 1a", "1a 1b 2c 2D 4e"} {
		l := logOf(s)
		for n := range l {
			wantSame(t, "some first ones", l, logOf(s)[:n], false)
			wantSame(t, "some last ones", l, logOf(s)[n+1:], false)
		}
		wantSame(t, "one more", l, append(logOf(s), api.Entry{}), false)
		wantSame(t, "all twice", l, append(logOf(s), logOf(s)...), false)
	}
	zeros := make([]api.Entry, 4)
	for n := range zeros {
		wantSame(t, "zeros", zeros, zeros[:n], false)
		wantSame(t, "zeros", zeros[:n], make([]api.Entry, n), true)
	}
}

// TestSameUnlikeInOneThing: of an entry at each place.
func TestSameUnlikeInOneThing(t *testing.T) {
	for _, x := range unlike() {
		for at := range 3 {
			l := logOf("1a 2B 2c")
			x.turn(&l[at])
			wantSame(t, x.what, l, logOf("1a 2B 2c"), false)
			other := logOf("1a 2B 2c")
			x.turn(&other[at])
			wantSame(t, x.what+", both", l, other, true)
			if at > 0 {
				wantSame(t, x.what+", at another place", l[at:at+1], logOf("1a 2B 2c")[at:at+1], false)
			}
		}
	}
	// what is alike at other places is not
	wantSame(t, "the other way round", logOf("1a 2B 2c"), logOf("2c 2B 1a"), false)
	wantSame(t, "terms changed places", logOf("1a 2b"), logOf("2a 1b"), false)
	wantSame(t, "what they carry changed places", logOf("1a 1b"), logOf("1b 1a"), false)
}

// TestSameUnlikeInTwoThings: one does not make up for the other.
func TestSameUnlikeInTwoThings(t *testing.T) {
	for _, x := range []change{
		{"Session and Seq changed places", func(e *api.Entry) { e.T.Session, e.T.Seq = e.T.Seq, e.T.Session }},
		{"Term and Session changed places", func(e *api.Entry) { e.Term, e.T.Session = e.T.Session, e.Term }},
		{"Term up, Seq down", func(e *api.Entry) { e.Term, e.T.Seq = e.Term+1, e.T.Seq-1 }},
		{"Versions changed places", func(e *api.Entry) {
			r := e.T.Reads
			r[0].Version, r[1].Version = r[1].Version, r[0].Version
		}},
		{"Keys changed places", func(e *api.Entry) {
			w := e.T.Writes
			w[0].Key, w[1].Key = w[1].Key, w[0].Key
		}},
		{"a Read less, a Write more", func(e *api.Entry) {
			e.T.Reads = e.T.Reads[:1]
			e.T.Writes = append(e.T.Writes, api.Write{})
		}},
	} {
		l := logOf("1a")
		x.turn(&l[0])
		wantSame(t, x.what, l, logOf("1a"), false)
	}
}

// TestSameNilAndEmpty are one: of entries, and of what they carry.
func TestSameNilAndEmpty(t *testing.T) {
	none := [][]api.Entry{nil, {}, make([]api.Entry, 0, 3), logOf("1a 1b")[:0]}
	for _, a := range none {
		for _, b := range none {
			wantSame(t, "of no entries", a, b, true)
		}
		wantSame(t, "of none and of one", a, logOf("1a"), false)
		wantSame(t, "of none and of a zero", a, make([]api.Entry, 1), false)
	}
	reads := [][]api.Read{nil, {}, make([]api.Read, 0, 3), carried('a').Reads[:0]}
	writes := [][]api.Write{nil, {}, make([]api.Write, 0, 3), carried('a').Writes[:0]}
	of := func(r []api.Read, w []api.Write) []api.Entry {
		return []api.Entry{{Term: 1, T: api.Txn{Session: 2, Seq: 3, Reads: r, Writes: w}}}
	}
	for i := range reads {
		for j := range reads {
			wantSame(t, "of none inside", of(reads[i], writes[j]), of(reads[j], writes[i]), true)
			wantSame(t, "of none and of one Read", of(reads[i], writes[j]), of(make([]api.Read, 1), writes[i]), false)
			wantSame(t, "of none and of one Write", of(reads[i], writes[j]), of(reads[j], make([]api.Write, 1)), false)
		}
		some := carried('a')
		wantSame(t, "of no Writes", of(some.Reads, writes[i]), of(carried('a').Reads, nil), true)
		wantSame(t, "of no Reads", of(reads[i], some.Writes), of(nil, carried('a').Writes), true)
	}
}

// TestSameHangsOnNoRoom: what stands behind a list is not looked at.
func TestSameHangsOnNoRoom(t *testing.T) {
	l := logOf("1a 1b 2c 2D")
	wantSame(t, "a part", l[:2], logOf("1a 1b 3x 3y")[:2], true)
	wantSame(t, "a part", l[1:3], logOf("9z 1b 2c 3y")[1:3], true)
	one, other := logOf("1a"), logOf("1a")
	one[0].T.Reads = append(one[0].T.Reads, api.Read{Key: "x"})[:2]
	other[0].T.Reads = append(other[0].T.Reads, api.Read{Key: "y"})[:2]
	one[0].T.Writes = append(one[0].T.Writes, api.Write{Key: "x"})[:2]
	wantSame(t, "room behind what is carried", one, other, true)
}
