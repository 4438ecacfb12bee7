package ulog_test

import (
	"math"
	"reflect"
	"strconv"
	"strings"
	"testing"

	"diwan/api"
	"diwan/ulog"
)

// carried is a transaction that no other letter carries.
func carried(c byte) api.Txn {
	k := string(rune(c))
	return api.Txn{
		Session: int(c),
		Seq:     1000 + int(c),
		Reads:   []api.Read{{Key: k, Version: int(c), Val: k + k, There: true}, {Key: k + "2"}},
		Writes:  []api.Write{{Key: k, Val: k}, {Key: k + "2", Gone: true}},
	}
}

// logOf makes a log anew: "1a 2B" is an entry of term 1 that carries what a stands for, and a seal of term 2 that carries what B stands for.
func logOf(s string) []api.Entry {
	var l []api.Entry
	for _, f := range strings.Fields(s) {
		c := f[len(f)-1]
		term, err := strconv.Atoi(f[:len(f)-1])
		if err != nil {
			panic(err)
		}
		l = append(l, api.Entry{Term: term, Seal: c <= 'Z', T: carried(c)})
	}
	return l
}

// textOf tells l as logOf reads it, with a ? behind what logOf would not have made.
func textOf(l []api.Entry) string {
	var fs []string
	for _, e := range l {
		c := byte(e.T.Session)
		f := strconv.Itoa(e.Term) + string(rune(c))
		if !plainSame([]api.Entry{e}, []api.Entry{{Term: e.Term, Seal: c <= 'Z', T: carried(c)}}) {
			f += "?"
		}
		fs = append(fs, f)
	}
	return strings.Join(fs, " ")
}

// clone is a list of its own; of no items it is nil.
func clone[T any](l []T) []T {
	return append([]T(nil), l...)
}

// deep is l in memory of its own, nil where a list has no items.
func deep(l []api.Entry) []api.Entry {
	l = clone(l)
	for i := range l {
		l[i].T.Reads = clone(l[i].T.Reads)
		l[i].T.Writes = clone(l[i].T.Writes)
	}
	return l
}

// plainSame is P9.1's word on Same.
func plainSame(a, b []api.Entry) bool {
	return reflect.DeepEqual(deep(a), deep(b))
}

// plainTerm is P9.1's word on Term.
func plainTerm(l []api.Entry, i int) int {
	for k, e := range l {
		if k+1 == i {
			return e.Term
		}
	}
	return 0
}

// plainHas is P9.1's word on Has.
func plainHas(l []api.Entry, i, term int) bool {
	if i == 0 {
		return true
	}
	for k, e := range l {
		if k+1 == i && e.Term == term {
			return true
		}
	}
	return false
}

// plainNewer is P9.1's word on Newer.
func plainNewer(l []api.Entry, i, term int) bool {
	last, many := 0, 0
	for _, e := range l {
		last = e.Term
		many++
	}
	if term == last {
		return many <= i
	}
	return term > last
}

// edges are places and terms of all kinds: those of short logs, and the greatest and least.
func edges() []int {
	l := []int{math.MinInt, math.MinInt + 1, math.MinInt32, -1 << 32, 1 << 32, 1<<32 + 1, math.MaxInt32, math.MaxInt - 1, math.MaxInt}
	for v := -6; v <= 8; v++ {
		l = append(l, v)
	}
	return l
}

// logs are of all kinds: terms that rise, stay, fall, are 0 and below.
func logs() []string {
	return []string{
		"", "1a", "0a", "-1a", "7A", "1a 1b", "1a 2B", "2a 1b", "0a 0b", "1a 1b 2c 2D 4e", "0a 0B 1c", "3a 2b 1c 0d -1e",
		"5a 5b 5c", "4294967297a", "9223372036854775807a", "-9223372036854775808a 9223372036854775807b",
	}
}

func TestTerm(t *testing.T) {
	log := "3a 3B 5c 7d 7E"
	for _, x := range []struct {
		log     string
		i, want int
	}{
		{log, math.MinInt, 0},
		{log, -5, 0},
		{log, -1, 0},
		{log, 0, 0},
		{log, 1, 3},
		{log, 2, 3},
		{log, 3, 5},
		{log, 4, 7},
		{log, 5, 7},
		{log, 6, 0},
		{log, 7, 0},
		{log, math.MaxInt, 0},
		{"", math.MinInt, 0},
		{"", -1, 0},
		{"", 0, 0},
		{"", 1, 0},
		{"", 2, 0},
		{"", math.MaxInt, 0},
		{"9a", 0, 0},
		{"9a", 1, 9},
		{"9a", 2, 0},
		{"0a 1b", 1, 0},
		{"-4a 1b", 1, -4},
	} {
		if got := ulog.Term(logOf(x.log), x.i); got != x.want {
			t.Errorf("Term(%s, %d) = %d, want %d", x.log, x.i, got, x.want)
		}
	}
}

func TestHas(t *testing.T) {
	log := "3a 3B 5c 7d 7E"
	for _, x := range []struct {
		log     string
		i, term int
		want    bool
	}{
		{log, 0, 0, true}, // of any term
		{log, 0, 3, true},
		{log, 0, 99, true},
		{log, 0, -1, true},
		{log, 0, math.MinInt, true},
		{"", 0, 0, true},
		{"", 0, 1, true},
		{"", 0, -1, true},
		{log, -1, 0, false},
		{log, -1, 3, false},
		{log, -5, 3, false},
		{log, math.MinInt, 0, false},
		{"", -1, 0, false},
		{log, 1, 3, true},
		{log, 1, 0, false},
		{log, 1, 2, false},
		{log, 1, 4, false},
		{log, 1, -3, false},
		{log, 2, 3, true},
		{log, 2, 5, false},
		{log, 3, 5, true},
		{log, 3, 3, false},
		{log, 3, 7, false},
		{log, 4, 7, true},
		{log, 4, 5, false},
		{log, 5, 7, true},
		{log, 5, 8, false},
		{log, 5, 0, false},
		{log, 6, 7, false},
		{log, 6, 0, false}, // what is not there is not of term 0
		{log, 7, 0, false},
		{log, math.MaxInt, 0, false},
		{"", 1, 0, false},
		{"", 1, 1, false},
		{"0a 1b", 1, 0, true},
		{"0a 1b", 1, 1, false},
		{"-4a", 1, -4, true},
		{"-4a", 1, 4, false},
		{"4294967297a", 1, 1, false},
	} {
		if got := ulog.Has(logOf(x.log), x.i, x.term); got != x.want {
			t.Errorf("Has(%s, %d, %d) = %v", x.log, x.i, x.term, got)
		}
	}
}

func TestNewer(t *testing.T) {
	log := "3a 3B 5c 7d"
	for _, x := range []struct {
		log     string
		i, term int
		want    bool
	}{
		{"", 0, 0, true}, // an empty log's last term is 0
		{"", 1, 0, true},
		{"", -1, 0, false},
		{"", math.MinInt, 0, false},
		{"", 0, 1, true},
		{"", 3, 1, true},
		{"", -1, 1, true},
		{"", 0, -1, false},
		{"", 5, -1, false},
		{log, 4, 7, true},
		{log, 5, 7, true},
		{log, math.MaxInt, 7, true},
		{log, 3, 7, false},
		{log, 1, 7, false},
		{log, 0, 7, false},
		{log, -1, 7, false},
		{log, math.MinInt, 7, false},
		{log, 4, 8, true},
		{log, 5, 8, true},
		{log, 3, 8, true}, // a term above makes up for any place
		{log, 0, 8, true},
		{log, -1, 8, true},
		{log, math.MinInt, math.MaxInt, true},
		{log, 4, 6, false},
		{log, 5, 6, false}, // and one below for none
		{log, math.MaxInt, 6, false},
		{log, 4, 5, false},
		{log, 4, 3, false},
		{log, 9, 0, false},
		{log, math.MaxInt, math.MinInt, false},
		{"7a 3b", 2, 3, true}, // the last one's term, not the greatest
		{"7a 3b", 1, 3, false},
		{"7a 3b", 1, 4, true},
		{"0a", 1, 0, true},
		{"0a", 0, 0, false},
		{"4294967297a", 9, 2, false},
	} {
		if got := ulog.Newer(logOf(x.log), x.i, x.term); got != x.want {
			t.Errorf("Newer(%s, %d, %d) = %v", x.log, x.i, x.term, got)
		}
	}
}

// TestEachPlaceAndTerm: Term, Has and Newer of each log with each place and each term, by P9.1's words.
func TestEachPlaceAndTerm(t *testing.T) {
	for _, s := range logs() {
		l := logOf(s)
		for _, i := range edges() {
			if got, want := ulog.Term(l, i), plainTerm(l, i); got != want {
				t.Errorf("Term(%s, %d) = %d, want %d", s, i, got, want)
			}
			for _, term := range append(edges(), plainTerm(l, i)) {
				if got, want := ulog.Has(l, i, term), plainHas(l, i, term); got != want {
					t.Errorf("Has(%s, %d, %d) = %v", s, i, term, got)
				}
				if got, want := ulog.Newer(l, i, term), plainNewer(l, i, term); got != want {
					t.Errorf("Newer(%s, %d, %d) = %v", s, i, term, got)
				}
			}
		}
		if !plainSame(l, logOf(s)) {
			t.Errorf("%s is now %s", s, textOf(l))
		}
	}
}

// TestOfTwoOneIsNewer: of two logs, one at least is as new as the other; both are where their last ones stand at one place and are of one term.
func TestOfTwoOneIsNewer(t *testing.T) {
	for _, s := range logs() {
		for _, r := range logs() {
			a, b := logOf(s), logOf(r)
			one := ulog.Newer(a, len(b), plainTerm(b, len(b)))
			other := ulog.Newer(b, len(a), plainTerm(a, len(a)))
			alike := len(a) == len(b) && plainTerm(a, len(a)) == plainTerm(b, len(b))
			if !one && !other || (one && other) != alike {
				t.Errorf("%s and %s: %v, %v", s, r, one, other)
			}
		}
	}
}

// TestLong: a log of far more than MaxLog entries.
func TestLong(t *testing.T) {
	l := make([]api.Entry, 1<<17)
	for k := range l {
		l[k].Term = k/3 + 1
	}
	for _, i := range []int{1, 2, 200, 201, 1 << 16, 1<<16 + 1, 1<<17 - 1, 1 << 17} {
		want := (i-1)/3 + 1
		if got := ulog.Term(l, i); got != want || !ulog.Has(l, i, want) || ulog.Has(l, i, want+1) || ulog.Has(l, i, want-1) {
			t.Errorf("entry %d is of term %d, want %d", i, got, want)
		}
	}
	last := (1<<17-1)/3 + 1
	if ulog.Term(l, 1<<17+1) != 0 || !ulog.Newer(l, 1<<17, last) || ulog.Newer(l, 1<<17-1, last) {
		t.Error("it ends elsewhere")
	}
	other := deep(l)
	if !ulog.Same(l, other) || ulog.Same(l, other[:1<<17-1]) {
		t.Error("Same")
	}
	other[1<<17-1].T.Seq++
	if ulog.Same(l, other) {
		t.Error("the last ones are unlike")
	}
	if got := ulog.Join(l, 1<<16, other[1<<16:]); !plainSame(got, l) {
		t.Error("Join of its own terms is another one")
	}
	other[1<<17-1].Term++
	if got := ulog.Join(l, 1<<16, other[1<<16:]); !plainSame(got, other) {
		t.Error("Join of another last term is not that one's")
	}
}
