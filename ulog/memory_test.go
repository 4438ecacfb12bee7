package ulog_test

import (
	"reflect"
	"testing"

	"diwan/api"
	"diwan/ulog"
)

// roomy tells the entries of s as a piece of a longer list, with more behind each list that they carry.
func roomy(s string) []api.Entry {
	n := len(logOf(s))
	l := logOf("8h 8i " + s + " 9j 9k 9l")
	for i := range l {
		t := &l[i].T
		t.Reads = append(t.Reads, api.Read{Key: "behind", Version: i}, api.Read{Key: "end"})[:len(t.Reads)]
		t.Writes = append(t.Writes, api.Write{Key: "behind"}, api.Write{Key: "end", Gone: true})[:len(t.Writes)]
	}
	return l[2 : 2+n]
}

// whole is all of l in memory of its own, with the room behind it and behind what it carries.
func whole(l []api.Entry) []api.Entry {
	l = clone(l[:cap(l)])
	for i := range l {
		t := &l[i].T
		t.Reads, t.Writes = clone(t.Reads[:cap(t.Reads)]), clone(t.Writes[:cap(t.Writes)])
	}
	return l
}

// fill puts v all over l and the room behind it.
func fill[T any](l []T, v T) {
	l = l[:cap(l)]
	for i := range l {
		l[i] = v
	}
}

// turners write to one of the lists of l each, and the room behind it: those that each entry carries first, l itself last.
func turners(l []api.Entry) []func() {
	var all []func()
	for _, e := range l[:cap(l)] {
		all = append(all,
			func() { fill(e.T.Reads, api.Read{Key: "turned", Version: -7, Val: "t", There: true}) },
			func() { fill(e.T.Writes, api.Write{Key: "turned", Val: "t", Gone: true}) })
	}
	return append(all, func() { fill(l, api.Entry{Term: -7, Seal: true, T: carried('t')}) })
}

func turn(l []api.Entry) {
	for _, f := range turners(l) {
		f()
	}
}

// joins are Joins of which l's, more's, or both are told.
func joins() []struct {
	log  string
	i    int
	more string
} {
	return []struct {
		log  string
		i    int
		more string
	}{
		{"1a 1b 2c", -1, "1x 2y"},
		{"1a 1b 2c", 4, "1x 2y"},
		{"1a 1b 2c", 0, ""},
		{"1a 1b 2c", 3, ""},
		{"1a 1b 2c", 0, "1x 1y"},
		{"1a 1b 2c", 0, "1x 1y 2z"},
		{"1a 1b 2c", 0, "1x 1y 2z 3v"},
		{"1a 1b 2c", 0, "3x 3y"},
		{"1a 1b 2c", 1, "1x 3y 3z"},
		{"1a 1b 2c", 2, "3y"},
		{"1a 1b 2c", 3, "3x 3y"},
		{"", 0, "3x 3y"},
		{"", 0, ""},
		{"1a", 0, "2x"},
	}
}

// TestJoinLeavesWhatIsHandedIn: as it was, with the room behind it.
func TestJoinLeavesWhatIsHandedIn(t *testing.T) {
	for _, x := range joins() {
		l, more := roomy(x.log), roomy(x.more)
		wasL, wasMore := whole(l), whole(more)
		for range 2 {
			if got, want := ulog.Join(l, x.i, more), plainJoin(logOf(x.log), x.i, logOf(x.more)); !plainSame(got, want) {
				t.Errorf("%+v: %s", x, textOf(got))
			}
		}
		if !reflect.DeepEqual(whole(l), wasL) || !reflect.DeepEqual(whole(more), wasMore) {
			t.Errorf("%+v: what was handed in is now %+v, %+v", x, l, more)
		}
	}
}

// TestJoinKeepsNothing: who writes to what was handed in, or to the room behind it, does not change what was told.
func TestJoinKeepsNothing(t *testing.T) {
	for _, x := range joins() {
		l, more := roomy(x.log), roomy(x.more)
		got := ulog.Join(l, x.i, more)
		was := whole(got)
		turn(l)
		turn(more)
		if !reflect.DeepEqual(whole(got), was) {
			t.Errorf("%+v: what was told is now %+v", x, got)
		}
	}
}

// TestJoinIsNewMemory: who writes to what was told, or to the room behind it, changes neither what was handed in nor another answer.
func TestJoinIsNewMemory(t *testing.T) {
	for _, x := range joins() {
		l, more := roomy(x.log), roomy(x.more)
		wasL, wasMore := whole(l), whole(more)
		one, other := ulog.Join(l, x.i, more), ulog.Join(l, x.i, more)
		was := whole(other)
		turn(one)
		if !reflect.DeepEqual(whole(l), wasL) || !reflect.DeepEqual(whole(more), wasMore) {
			t.Errorf("%+v: what was handed in is now %+v, %+v", x, l, more)
		}
		if !reflect.DeepEqual(whole(other), was) {
			t.Errorf("%+v: two answers share memory", x)
		}
		// nor do some more entries behind it
		got := ulog.Join(l, x.i, more)
		_ = append(got, logOf("7q 7r 7s 7t")...)
		if !reflect.DeepEqual(whole(l), wasL) || !reflect.DeepEqual(whole(more), wasMore) {
			t.Errorf("%+v: appended to, what was handed in is now %+v, %+v", x, l, more)
		}
	}
}

// shared are entries whose lists are pieces of one.
func shared() []api.Entry {
	reads := append(carried('a').Reads, carried('b').Reads...)
	writes := append(carried('a').Writes, carried('b').Writes...)
	return []api.Entry{
		{Term: 1, T: api.Txn{Reads: reads[:1], Writes: writes[:2]}},
		{Term: 1, T: api.Txn{Reads: reads[1:3], Writes: writes[2:2]}},
		{Term: 2, T: api.Txn{Reads: reads, Writes: writes}},
		{Term: 2, T: api.Txn{Reads: reads, Writes: writes}},
	}
}

// TestNoTwoListsOfAnAnswerShare, even where those handed in do.
func TestNoTwoListsOfAnAnswerShare(t *testing.T) {
	told := func() [][]api.Entry {
		l := shared()
		return [][]api.Entry{
			ulog.Join(l, 0, nil), ulog.Join(l, -1, l), ulog.Join(l, 5, l), ulog.Join(l, 0, l), ulog.Join(l, 4, l), ulog.Join(l, 2, l), ulog.Join(nil, 0, l),
			ulog.Join(l[:2], 1, l[2:]), ulog.Join(l[2:], 0, l[:2]), ulog.Join(roomy("1a 1b"), 2, roomy("1a 1b")),
		}
	}
	for k, was := range told() {
		was = whole(was)
		for n := range turners(told()[k]) {
			got := told()[k]
			// The lists are told by what stood there: those that the entries carried ahead of the turn.
			before := clone(got)
			turners(got)[n]()
			changed := 0
			for i := range before {
				if !reflect.DeepEqual(clone(before[i].T.Reads[:cap(before[i].T.Reads)]), was[i].T.Reads) {
					changed++
				}
				if !reflect.DeepEqual(clone(before[i].T.Writes[:cap(before[i].T.Writes)]), was[i].T.Writes) {
					changed++
				}
			}
			if changed > 1 {
				t.Errorf("answer %d: one list was written to, %d are changed", k, changed)
			}
		}
	}
}

// TestAskedOfAPart: what stands ahead of a list and behind it is not looked at, by any of them.
func TestAskedOfAPart(t *testing.T) {
	l := roomy("1a 1b 2c")
	was := whole(l)
	if ulog.Term(l, 4) != 0 || ulog.Term(l, 3) != 2 || ulog.Term(l, -1) != 0 || ulog.Has(l, 4, 9) || ulog.Has(l, -1, 8) {
		t.Error("Term and Has")
	}
	if !ulog.Newer(l, 3, 2) || ulog.Newer(l, 2, 2) || !ulog.Newer(l[:0], 0, 0) {
		t.Error("Newer")
	}
	if !ulog.Same(l, logOf("1a 1b 2c")) || ulog.Same(l[:2], l[:3]) {
		t.Error("Same")
	}
	if !reflect.DeepEqual(whole(l), was) {
		t.Errorf("what was handed in is now %+v", l)
	}
}

// TestTellsTheSame, however often it is asked.
func TestTellsTheSame(t *testing.T) {
	for _, x := range joins() {
		first := ulog.Join(logOf(x.log), x.i, logOf(x.more))
		for range 10 {
			if again := ulog.Join(logOf(x.log), x.i, logOf(x.more)); !plainSame(again, first) {
				t.Errorf("%+v: %s, then %s", x, textOf(first), textOf(again))
			}
		}
	}
}
