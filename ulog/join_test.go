package ulog_test

import (
	"math"
	"slices"
	"testing"

	"diwan/api"
	"diwan/ulog"
)

// plainJoin is P9.1's word on Join, place by place.
func plainJoin(l []api.Entry, i int, more []api.Entry) []api.Entry {
	if i < 0 || i > len(l) {
		return l
	}
	ofL, ofMore := map[int]api.Entry{}, map[int]api.Entry{}
	for k, e := range l {
		ofL[k+1] = e
	}
	for k, e := range more {
		ofMore[i+1+k] = e
	}
	for at := i + 1; ; at++ {
		its, some := ofMore[at]
		if !some {
			return l
		}
		ls, some := ofL[at]
		if some && ls.Term == its.Term {
			continue
		}
		var all []api.Entry
		for p := 1; p < at; p++ {
			all = append(all, ofL[p])
		}
		for p := at; p <= i+len(more); p++ {
			all = append(all, ofMore[p])
		}
		return all
	}
}

// wantJoin holds Join to want, and Join of that to the same; and that nothing that is handed in has changed.
func wantJoin(t *testing.T, l []api.Entry, i int, more, want []api.Entry) {
	t.Helper()
	wasL, wasMore := deep(l), deep(more)
	got := ulog.Join(l, i, more)
	if !plainSame(got, want) {
		t.Errorf("Join(%s, %d, %s) = %s, want %s", textOf(l), i, textOf(more), textOf(got), textOf(want))
	}
	if again := ulog.Join(got, i, more); !plainSame(again, got) {
		t.Errorf("Join(%s, %d, %s) = %s, twice: %s", textOf(l), i, textOf(more), textOf(got), textOf(again))
	}
	if !plainSame(l, wasL) || !plainSame(more, wasMore) {
		t.Errorf("Join(%s, %d, %s) changed them: %s, %s", textOf(wasL), i, textOf(wasMore), textOf(l), textOf(more))
	}
}

func TestJoin(t *testing.T) {
	const log = "1a 1b 2c 2D 4e"
	for _, x := range []struct {
		log        string
		i          int
		more, want string
	}{
		// behind nothing
		{log, 0, "", log},
		{log, 0, "1v", log}, // of l's own terms: fewer, as many, more
		{log, 0, "1v 1w", log},
		{log, 0, "1v 1w 2x 2Y", log},
		{log, 0, "1v 1w 2x 2Y 4z", log},
		{log, 0, "1V 1W 2X 2y 4Z", log}, // alike in their terms alone
		{log, 0, "1v 1w 2x 2Y 4z 4u", log + " 4u"},
		{log, 0, "1v 1w 2x 2Y 4z 4u 5s", log + " 4u 5s"},
		{log, 0, "2v 1w 2x 2Y 4z", "2v 1w 2x 2Y 4z"}, // one of another term: the first, a middle one, the last
		{log, 0, "1v 3w 2x 2Y 4z", "1a 3w 2x 2Y 4z"},
		{log, 0, "1v 1w 3x 2Y 4z", "1a 1b 3x 2Y 4z"},
		{log, 0, "1v 1w 2x 3Y 4z", "1a 1b 2c 3Y 4z"},
		{log, 0, "1v 1w 2x 2Y 5z", "1a 1b 2c 2D 5z"},
		{log, 0, "1v 1w 2x 2Y 3z", "1a 1b 2c 2D 3z"},
		{log, 0, "1v 1w 2x 2Y 5z 5u", "1a 1b 2c 2D 5z 5u"},
		{log, 0, "3v", "3v"}, // l's go, however many they are
		{log, 0, "1v 3w", "1a 3w"},
		{log, 0, "1v 1w 2x 3Y", "1a 1b 2c 3Y"},
		{log, 0, "0v", "0v"},
		{log, 0, "-1v", "-1v"},
		{log, 0, "4294967297v", "4294967297v"},
		// in the midst
		{log, 2, "", log},
		{log, 2, "2x", log},
		{log, 2, "2x 2Y", log},
		{log, 2, "2x 2Y 4z", log},
		{log, 2, "2x 2Y 4z 4u", log + " 4u"},
		{log, 2, "2x 2Y 4z 4u 9s", log + " 4u 9s"},
		{log, 2, "3x 2Y 4z", "1a 1b 3x 2Y 4z"},
		{log, 2, "2x 3Y 4z", "1a 1b 2c 3Y 4z"},
		{log, 2, "2x 2Y 5z", "1a 1b 2c 2D 5z"},
		{log, 2, "2x 2Y 5z 6u", "1a 1b 2c 2D 5z 6u"},
		{log, 2, "3x", "1a 1b 3x"},
		{log, 2, "1x", "1a 1b 1x"},
		{log, 2, "2x 3Y", "1a 1b 2c 3Y"},
		{log, 1, "1v 1w 2x", "1a 1b 1w 2x"}, // the terms are there, at other places
		{log, 4, "4z", log},
		{log, 4, "4z 4u", log + " 4u"},
		{log, 4, "5z", "1a 1b 2c 2D 5z"},
		{log, 4, "5z 4u", "1a 1b 2c 2D 5z 4u"},
		// at the end
		{log, 5, "", log},
		{log, 5, "4z", log + " 4z"},
		{log, 5, "5z", log + " 5z"},
		{log, 5, "1v 1w 2x", log + " 1v 1w 2x"},
		{log, 5, "0v -3w 0x", log + " 0v -3w 0x"}, // what l has not is not of term 0
		// an empty log
		{"", 0, "", ""},
		{"", 0, "1v", "1v"},
		{"", 0, "0v", "0v"},
		{"", 0, "1v 1w 2x", "1v 1w 2x"},
		{"", 1, "1v", ""},
		{"", -1, "1v", ""},
		{"", math.MaxInt, "1v 1w", ""},
		{"", math.MinInt, "1v 1w", ""},
	} {
		wantJoin(t, logOf(x.log), x.i, logOf(x.more), logOf(x.want))
		if got := plainJoin(logOf(x.log), x.i, logOf(x.more)); !plainSame(got, logOf(x.want)) {
			t.Errorf("plainJoin(%s, %d, %s) = %s, want %s", x.log, x.i, x.more, textOf(got), x.want)
		}
	}
}

// TestJoinWhereNoEntryIs: below 0 and beyond the log there is nothing to be behind.
func TestJoinWhereNoEntryIs(t *testing.T) {
	const log = "1a 1b 2c 2D 4e"
	for _, i := range []int{math.MinInt, math.MinInt + 1, math.MinInt32, -6, -5, -2, -1, 6, 7, 10, math.MaxInt32, 1 << 32, math.MaxInt - 1, math.MaxInt} {
		for _, more := range []string{
			"", "1v", "1v 1w", "1v 1w 2x 2Y 4z", "1v 1w 2x 2Y 4z 4u", "2v", "2v 1w 2x 2Y 4z", "1v 1w 3x 2Y 4z", "1v 1w 2x 2Y 5z",
			"4z", "4u 4v", "5z", "9x 9y 9z", "0x",
		} {
			wantJoin(t, logOf(log), i, logOf(more), logOf(log))
		}
	}
}

// TestJoinOfTheSameTerm: what stays is l's, in whatever else the two are unlike.
func TestJoinOfTheSameTerm(t *testing.T) {
	for _, x := range unlike() {
		if x.what == "Term" {
			continue
		}
		for at := range 3 {
			l, more := logOf("1a 1b 2c"), logOf("1a 1b 2c")
			x.turn(&more[at])
			wantJoin(t, l, 0, more, l)
			wantJoin(t, more, 0, l, more)
			wantJoin(t, l, at, more[at:], l)
			wantJoin(t, l, at, more[at:at+1], l)
			wantJoin(t, l, 0, append(more, logOf("3z")...), append(logOf("1a 1b 2c"), logOf("3z")...))
		}
	}
}

// TestJoinKeepsNothingBack: each part of what an entry carries comes over, of l's and of more's.
func TestJoinKeepsNothingBack(t *testing.T) {
	for _, x := range unlike() {
		for at := range 3 {
			l, more := logOf("1a 1b 1c"), logOf("2x 2y 2z")
			x.turn(&l[at])
			x.turn(&more[at])
			wantJoin(t, l, 3, more, append(deep(l), deep(more)...))
			wantJoin(t, l, 0, nil, l)
			wantJoin(t, nil, 0, more, more)
			wantJoin(t, l, -1, more, l)
			wantJoin(t, l, 4, more, l)
		}
	}
}

// rows are all rows of at most n of the terms.
func rows(terms []int, n int) [][]int {
	all := [][]int{nil}
	for from := 0; n > 0; n-- {
		to := len(all)
		for _, r := range all[from:to] {
			for _, term := range terms {
				all = append(all, append(slices.Clone(r), term))
			}
		}
		from = to
	}
	return all
}

// ofTerms makes a log of these terms, whose entries carry what first stands for, and what comes behind it.
func ofTerms(terms []int, first byte) []api.Entry {
	var l []api.Entry
	for k, term := range terms {
		l = append(l, api.Entry{Term: term, Seal: k%3 == 2, T: carried(first + byte(k))})
	}
	return l
}

// TestJoinOfAll: all short logs, with all short ones behind each place.
func TestJoinOfAll(t *testing.T) {
	all := rows([]int{0, 1, 2}, 4)
	if len(all) != 1+3+9+27+81 {
		t.Fatalf("%d rows", len(all))
	}
	for _, a := range all {
		l := ofTerms(a, 'a')
		for _, b := range all {
			more := ofTerms(b, 'p')
			for i := -1; i <= len(l)+1; i++ {
				wantJoin(t, l, i, more, plainJoin(l, i, more))
			}
			if t.Failed() {
				return
			}
		}
	}
}

// TestJoinNilAndEmpty are one.
func TestJoinNilAndEmpty(t *testing.T) {
	none := [][]api.Entry{nil, {}, make([]api.Entry, 0, 3), logOf("1a 1b")[:0]}
	for _, a := range none {
		for _, b := range none {
			for _, i := range []int{-1, 0, 1} {
				if got := ulog.Join(a, i, b); len(got) != 0 {
					t.Errorf("Join of nothing at %d: %s", i, textOf(got))
				}
			}
		}
		for i := -1; i <= 3; i++ {
			wantJoin(t, logOf("1a 1b"), i, a, logOf("1a 1b"))
		}
		wantJoin(t, a, 0, logOf("1a 1b"), logOf("1a 1b"))
	}
}

// fromBytes makes a log: each byte is an entry, its lowest two bits the term.
func fromBytes(b []byte, first byte) []api.Entry {
	var l []api.Entry
	for _, c := range b {
		l = append(l, api.Entry{Term: int(c & 3), Seal: c&4 != 0, T: carried(first ^ c>>3)})
	}
	return l
}

func FuzzJoin(f *testing.F) {
	f.Add([]byte{}, 0, []byte{})
	f.Add([]byte{1, 1, 2, 6, 3}, 2, []byte{10, 14, 3, 3})
	f.Add([]byte{1, 1, 2, 6, 3}, 5, []byte{1})
	f.Add([]byte{1, 1, 2, 6, 3}, 6, []byte{1})
	f.Add([]byte{1, 1, 2, 6, 3}, -1, []byte{1})
	f.Fuzz(func(t *testing.T, b []byte, i int, c []byte) {
		l, more := fromBytes(b, 'a'), fromBytes(c, 'p')
		wantJoin(t, l, i, more, plainJoin(l, i, more))
		if i > 0 && len(l) > 0 {
			at := i % (len(l) + 1)
			wantJoin(t, l, at, more, plainJoin(l, at, more))
		}
		if got, want := ulog.Same(l, more), plainSame(l, more); got != want {
			t.Errorf("Same(%s, %s) = %v", textOf(l), textOf(more), got)
		}
	})
}
