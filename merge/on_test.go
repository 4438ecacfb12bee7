package merge_test

import (
	"math/rand/v2"
	"testing"

	"diwan/api"
	"diwan/merge"
)

// grown are logs of which one has an entry more, in lists of their own.
func grown(logs [][]api.Entry, part int, e api.Entry) [][]api.Entry {
	logs = clone(logs)
	logs[part] = append(clone(logs[part]), e)
	return logs
}

// goesOn tells whether is begins with was.
func goesOn(was, is []api.Place) bool {
	return len(was) <= len(is) && same(was, is[:len(was)])
}

// wantOn holds All and Head of logs of which one has an entry more to what they told of these without it.
func wantOn(t *testing.T, logs [][]api.Entry, part int, e api.Entry) {
	t.Helper()
	was, is := merge.All(logs), merge.All(grown(logs, part, e))
	head, next := merge.Head(logs), merge.Head(grown(logs, part, e))
	if !goesOn(was, is) {
		t.Fatalf("of %s: %s; with one more in log %d: %s", textOf(logs), where(was), part, where(is))
	}
	if part != head && (len(is) != len(was) || next != head) {
		t.Fatalf("of %s, log %d: what it does not wait for brought %s, log %d", textOf(logs), head, where(is[len(was):]), next)
	}
	if part == head && !e.Seal && (len(is) != len(was)+1 || next != head) {
		t.Fatalf("of %s, log %d: a transaction in it brought %s, log %d", textOf(logs), head, where(is[len(was):]), next)
	}
}

func TestGoesOn(t *testing.T) {
	for _, x := range []struct{ was, is, more string }{
		// in the log that it waits for, a transaction brings itself
		{"a|,b", "a|,bc", "1.2c"},
		{"a|,b|,c", "a|,b|,cd", "2.2d"},
		{"", "a", "0.1a"},
		{"a|b,c|d", "a|bx,c|d", "0.4x"},
		// a Seal brings what waited behind it, and takes nothing back
		{"a,b", "a|,b", "1.1b"},
		{"a|c,b|d", "a|c|,b|d", "1.3d"},
		{"a|,b", "a|,b|", ""},
		{"a|c,b", "a|c,b|", "0.3c"},
		{"a|c|e,b", "a|c|e,b|", "0.3c"},
		{"a|c|e,b|d", "a|c|e,b|d|", "0.5e"},
		{"a|d|,b|e,c|f|g", "a|d|,b|e|,c|f|g", "2.3f"},
		{"a,b|c,d", "a|,b|c,d", "1.1b 2.1d"},
		{"abc", "abc|", ""},
		{"|", "||", ""},
		// in a log that it does not wait for, nothing brings anything, be it ahead or behind
		{"a,b", "a,bc", ""},
		{"a,b", "a,b|", ""},
		{"a,b", "a,b|c|d|", ""},
		{"a|,b", "a||,b", ""},
		{"a|,b", "a|cd|e,b", ""},
		{"a|d|,b|e,c|f|g", "a|d|xyz|,b|e,c|f|g|||", ""},
		// all at once
		{"a|,b|,c", "a|x|,b|y,cd|z", "2.2d 0.3x 1.3y"},
		{",,", "a|,b|,c", "0.1a 1.1b 2.1c"},
	} {
		was, is := merge.All(logsOf(x.was)), merge.All(logsOf(x.is))
		if !goesOn(was, is) || !same(is[len(was):], placesOf(x.more)) {
			t.Errorf("of %s: %s; of %s: %s; want %s more", x.was, where(was), x.is, where(is), x.more)
		}
	}
}

// TestGoesOnByOne: each short log with each other one, with each entry more in either.
func TestGoesOnByOne(t *testing.T) {
	for _, a := range signs(4) {
		for _, b := range signs(4) {
			for _, seal := range []bool{false, true} {
				for part := range 2 {
					wantOn(t, lettered(a, b), part, api.Entry{Seal: seal, T: carried('z')})
				}
			}
		}
	}
}

// TestGoesOnOneByOne: logs that begin with nothing and go on by chance, to their ends: all that was told stays where it was.
func TestGoesOnOneByOne(t *testing.T) {
	r := rand.New(rand.NewPCG(4, 14))
	for range 200 {
		logs := make([][]api.Entry, 1+r.IntN(5))
		in := 1 + r.IntN(6)
		for range 80 {
			part := r.IntN(len(logs))
			e := chance(r, 1, in)[0]
			wantOn(t, logs, part, e)
			logs = grown(logs, part, e)
		}
	}
}

// TestGoesOnByAny: first ones of logs, however many of each, tell first places of all.
func TestGoesOnByAny(t *testing.T) {
	r := rand.New(rand.NewPCG(5, 14))
	for range 300 {
		logs := chances(r, 6, 80)
		all := merge.All(logs)
		for range 20 {
			fronts := clone(logs)
			for k, l := range fronts {
				fronts[k] = l[:r.IntN(len(l)+1)]
			}
			if was := merge.All(fronts); !goesOn(was, all) {
				t.Fatalf("of %s: %s; of %s: %s", textOf(fronts), where(was), textOf(logs), where(all))
			}
		}
	}
}

// TestSealedAsOften: where all logs have as many Seals, all that stand ahead of these stand in the order, with what log 0 has behind them; so, where Seals end all logs, all transactions of all.
func TestSealedAsOften(t *testing.T) {
	r := rand.New(rand.NewPCG(6, 14))
	for range 300 {
		logs, ended := make([][]api.Entry, 1+r.IntN(5)), 0
		open := make([][]api.Entry, len(logs))
		n := r.IntN(6)
		for k := range logs {
			for range n {
				some := logOf("abcdefgh"[:r.IntN(9)] + "|")
				ended += len(some) - 1
				logs[k] = append(logs[k], some...)
			}
			open[k] = append(clone(logs[k]), logOf("xyz"[:r.IntN(4)])...)
		}
		want(t, logs, plainAll(logs), 0)
		if got := len(merge.All(logs)); got != ended {
			t.Fatalf("All(%s) tells %d of %d", textOf(logs), got, ended)
		}
		want(t, open, plainAll(open), 0)
		if got, more := len(merge.All(open)), len(open[0])-len(logs[0]); got != ended+more {
			t.Fatalf("All(%s) tells %d of %d and %d", textOf(open), got, ended, more)
		}
	}
}
