package merge_test

import (
	"reflect"
	"testing"

	"diwan/api"
	"diwan/merge"
)

// asked are logs of each kind.
func asked() []string {
	return []string{"", "a", "|", ",", "a,b", "a|,b", "ab|cd,ef|gh", "a|c|,b|d", "aXb,cYd|", "aaa|a,aa|a", "||a|,||b", "a|d|g|j,b|e|h|k,c|f", "abcdefgh|ijkl,mnop|q,rs|t|"}
}

// roomy tells logs as pieces of longer ones, with more behind each, behind each list that their entries carry, and behind all logs.
func roomy(s string) [][]api.Entry {
	logs := logsOf(s)
	for k, l := range logs {
		l = append(append(logOf("x|"), l...), logOf("y|z")...)
		for i := range l {
			t := &l[i].T
			t.Reads = append(t.Reads, api.Read{Key: "behind", Version: i}, api.Read{Key: "end"})[:len(t.Reads)]
			t.Writes = append(t.Writes, api.Write{Key: "behind"}, api.Write{Key: "end", Gone: true})[:len(t.Writes)]
		}
		logs[k] = l[2 : len(l)-3]
	}
	return append(logs, logOf("v|w"), logOf("u"))[:len(logs)]
}

// whole is all of logs in memory of its own, with the room behind each and behind what it carries.
func whole(logs [][]api.Entry) [][]api.Entry {
	logs = clone(logs[:cap(logs)])
	for k, l := range logs {
		l = clone(l[:cap(l)])
		for i := range l {
			t := &l[i].T
			t.Reads, t.Writes = clone(t.Reads[:cap(t.Reads)]), clone(t.Writes[:cap(t.Writes)])
		}
		logs[k] = l
	}
	return logs
}

// fill puts v all over l and the room behind it.
func fill[T any](l []T, v T) {
	l = l[:cap(l)]
	for k := range l {
		l[k] = v
	}
}

// spoil writes to all of a transaction's lists, and to the room behind them.
func spoil(t api.Txn) {
	fill(t.Reads, api.Read{Key: "turned"})
	fill(t.Writes, api.Write{Key: "turned"})
	_ = append(t.Reads, api.Read{Key: "more"}, api.Read{Key: "more"})
	_ = append(t.Writes, api.Write{Key: "more"}, api.Write{Key: "more"})
}

func TestLeavesWhatIsHandedIn(t *testing.T) {
	for _, s := range asked() {
		logs := roomy(s)
		was := whole(logs)
		for range 2 {
			want(t, logs, plainAll(logsOf(s)), plainHead(logsOf(s)))
		}
		if !reflect.DeepEqual(whole(logs), was) {
			t.Errorf("%s: what was handed in is now %+v", s, logs)
		}
	}
}

// TestKeepsNothing: who writes to what was handed in does not change what was told, nor what is told of the next ones.
func TestKeepsNothing(t *testing.T) {
	for _, s := range asked() {
		places, head := plainAll(logsOf(s)), plainHead(logsOf(s))
		logs := roomy(s)
		got := merge.All(logs)
		for _, l := range logs[:cap(logs)] {
			for _, e := range l[:cap(l)] {
				spoil(e.T)
			}
			for _, seal := range []bool{false, true} {
				fill(l, api.Entry{Term: -7, Seal: seal, T: carried('t')})
			}
		}
		fill(logs, logOf("t|t"))
		if !same(got, places) {
			t.Errorf("%s: what was told is now %v", s, got)
		}
		want(t, logsOf(s), places, head)
	}
}

// TestSharesNothingWithLogs: who writes to what was told, or to the room behind it, does not change what was handed in.
func TestSharesNothingWithLogs(t *testing.T) {
	for _, s := range asked() {
		logs := roomy(s)
		was := whole(logs)
		got := merge.All(logs)
		for _, p := range got {
			spoil(p.T)
		}
		_ = append(got, api.Place{Part: -8}, api.Place{Part: -8})
		fill(got, api.Place{Part: -7})
		if !reflect.DeepEqual(whole(logs), was) {
			t.Errorf("%s: what was handed in is now %+v", s, logs)
		}
		want(t, logs, plainAll(logsOf(s)), plainHead(logsOf(s)))
	}
}

// TestPlacesShareNothing: who writes to one place's lists, or to the room behind them, changes no other one, though logs, entries and what they carry be the same memory.
func TestPlacesShareNothing(t *testing.T) {
	one := api.Entry{T: carried('a')}
	// what two transactions read stands in one row, all of which a third one reads
	row := []api.Read{{Key: "1"}, {Key: "2"}, {Key: "3"}, {Key: "4"}}
	l := []api.Entry{one, {T: api.Txn{Reads: row[:2]}}, one, {T: api.Txn{Reads: row[2:]}}, {Seal: true}, {T: api.Txn{Reads: row}}, {Seal: true}}
	for _, logs := range [][][]api.Entry{{l}, {l, l}, {l, l, l[:5]}, {l[4:], l}, logsOf("ab|cd,ef|gh")} {
		places := deep(plainAll(logs))
		for k := range places {
			got := merge.All(logs)
			spoil(got[k].T)
			got[k] = places[k]
			if !same(got, places) {
				t.Errorf("place %d was written to: %v", k, got)
			}
		}
	}
}

// TestAnswersShareNothing: who writes to what one call told, or to the room behind it, changes nothing that another one told, nor will tell.
func TestAnswersShareNothing(t *testing.T) {
	for _, s := range asked() {
		logs, places := roomy(s), plainAll(logsOf(s))
		one, other := merge.All(logs), merge.All(logs)
		for _, p := range one {
			spoil(p.T)
		}
		_ = append(one, api.Place{Part: -8}, api.Place{Part: -8})
		fill(one, api.Place{Part: -7, T: carried('t')})
		if !same(other, places) || !same(merge.All(logs), places) {
			t.Errorf("%s: another answer is now %v", s, other)
		}
	}
}

// TestKeepsNothingAsLogsGoOn: what was told of logs as they were stays, though they go on in the same memory.
func TestKeepsNothingAsLogsGoOn(t *testing.T) {
	const a, b = "ab|cd|efg|h", "p|qr||s|t|u"
	logs := [][]api.Entry{make([]api.Entry, 0, len(a)), make([]api.Entry, 0, len(b))}
	var told [][]api.Place
	for n := range len(a) + 1 {
		told = append(told, merge.All(logs))
		for m := range n + 1 {
			if !same(told[m], plainAll([][]api.Entry{logOf(a[:m]), logOf(b[:m])})) {
				t.Errorf("of the first %d: what was told of the first %d is now %v", n, m, told[m])
			}
		}
		if n < len(a) {
			logs[0] = append(logs[0], logOf(a)[n])
			logs[1] = append(logs[1], logOf(b)[n])
		}
	}
}

// TestFirstLeavesWhatIsHandedIn: as it was, with what stands behind it and behind the lists in it.
func TestFirstLeavesWhatIsHandedIn(t *testing.T) {
	anew := func() []api.Place {
		l := placesOf("0.1a 1.1b 0.3a 1.4c 2.2d")
		for k := range l {
			x := &l[k].T
			x.Reads = append(x.Reads, api.Read{Key: "behind"})[:len(x.Reads)]
			x.Writes = append(x.Writes, api.Write{Key: "behind"})[:len(x.Writes)]
		}
		return l
	}
	l := anew()
	for _, x := range []struct {
		n    int
		c    byte
		want int
	}{{5, 'a', 1}, {5, 'b', 2}, {5, 'd', 5}, {4, 'd', 0}, {5, 'e', 0}, {3, 'c', 0}} {
		if got := merge.First(l[:x.n], int(x.c), 1000+int(x.c)); got != x.want {
			t.Errorf("First of %d, of %c = %d, want %d", x.n, x.c, got, x.want)
		}
	}
	was := anew()
	if !same(l, was) {
		t.Errorf("what was handed in is now %v", l)
	}
	for k := range l {
		a, b := l[k].T, was[k].T
		if !reflect.DeepEqual(a.Reads[:len(a.Reads)+1], b.Reads[:len(b.Reads)+1]) || !reflect.DeepEqual(a.Writes[:len(a.Writes)+1], b.Writes[:len(b.Writes)+1]) {
			t.Errorf("what is behind place %d is now %v", k, a)
		}
	}
	// nor is it kept: each answer is of what is handed in by then
	l[1].T = carried('a')
	l[0].T = carried('b')
	if a, b := merge.First(l, 'a', 1000+'a'), merge.First(l, 'b', 1000+'b'); a != 2 || b != 1 {
		t.Errorf("First of those that were swapped = %d, %d", a, b)
	}
}
