package hard

import (
	"bytes"
	"fmt"
	"math"
	"reflect"
	"strings"
	"testing"

	"diwan/api"
	"diwan/num"
	"diwan/raft"
	"diwan/txn"
)

// These tests make records that Diff does not: so they know their bytes.

// ahead is a member of one log, of term 3, with n entries of term 1.
func ahead(n int) [][]byte {
	recs := [][]byte{(&record{kind: kindTurn, term: 3}).bytes()}
	for i := range n {
		recs = append(recs, (&record{kind: kindAdd, at: i + 1, entry: api.Entry{Term: 1, Seal: true}}).bytes())
	}
	return recs
}

// foldBehind tells how many entries there are behind n and one record more.
func foldBehind(t *testing.T, n int, rec []byte) (int, bool) {
	t.Helper()
	l, ok := Fold(append(ahead(n), rec), 1, 1, 1, 1)
	if !ok && l != nil || ok && len(l) != 1 {
		t.Errorf("behind %d, %x: %d members, %v", n, rec, len(l), ok)
	}
	if !ok {
		return 0, false
	}
	return len(l[0].Log), true
}

// TestIndexOfEach: an entry's index is from 1 to one behind the last one, and then it is the last.
func TestIndexOfEach(t *testing.T) {
	for n := range 5 {
		for _, at := range []int{math.MinInt, math.MinInt + 1, -1 << 32, -2, -1, 0, 1, 2, 3, 4, 5, 6, 7, 1 << 32, 1<<32 + 1, math.MaxInt - 1, math.MaxInt} {
			rec := (&record{kind: kindAdd, at: at, entry: api.Entry{Term: 2, Seal: true}}).bytes()
			got, ok := foldBehind(t, n, rec)
			if want := 1 <= at && at <= n+1; ok != want || ok && got != at {
				t.Errorf("an entry at %d behind %d: %d, %v", at, n, got, ok)
			}
		}
	}
}

// TestCutOfEach: it is no more than there are, and not below 0.
func TestCutOfEach(t *testing.T) {
	for n := range 5 {
		for _, at := range []int{math.MinInt, math.MinInt + 1, -1 << 32, -2, -1, 0, 1, 2, 3, 4, 5, 6, 1 << 32, math.MaxInt - 1, math.MaxInt} {
			got, ok := foldBehind(t, n, (&record{kind: kindCut, at: at}).bytes())
			if want := 0 <= at && at <= n; ok != want || ok && got != at {
				t.Errorf("a cut of %d to %d: %d, %v", n, at, got, ok)
			}
		}
	}
}

// TestKindOfEach: there are three kinds, whatever stands behind another one.
func TestKindOfEach(t *testing.T) {
	for _, kind := range []int{math.MinInt, -3, -2, -1, 0, 1, 2, 3, 4, 5, 127, 128, 256, 257, 258, 259, 1<<32 + 1, math.MaxInt} {
		rec := (&record{kind: kind, term: 3, at: 1, entry: api.Entry{Term: 1}}).bytes()
		if _, ok := foldBehind(t, 2, rec); ok != (1 <= kind && kind <= 3) {
			t.Errorf("kind %d: %v", kind, ok)
		}
		var w writer
		w.number(&kind)
		for _, body := range []string{"", "\x00", "\x00\x00", "\x00\x01\x00", "\x00\x01\x01\x00\x00\x00\x00\x00"} {
			b := append(bytes.Clone(w.b), body...)
			b = append(b, sum(b))
			if _, ok := foldBehind(t, 2, b); ok && (kind < 1 || kind > 3) {
				t.Errorf("kind %d: %x is taken", kind, b)
			}
		}
	}
}

// manyRecords are records with a number of any size, and anything that an entry can carry.
func manyRecords() []record {
	var l []record
	for _, v := range []int{math.MinInt, math.MinInt + 1, -1 << 40, -129, -128, -127, -1, 0, 1, 2, 127, 128, 300, 1 << 40, math.MaxInt} {
		l = append(l,
			record{kind: kindTurn, part: v, term: 1, vote: 2}, record{kind: kindTurn, term: v, vote: 2}, record{kind: kindTurn, term: 3, vote: v},
			record{kind: kindCut, part: v, at: 1}, record{kind: kindCut, at: v},
			record{kind: kindAdd, part: v, at: 1}, record{kind: kindAdd, at: v, entry: api.Entry{Term: 1}}, record{kind: kindAdd, at: 2, entry: api.Entry{Term: v, Seal: true}})
	}
	return append(l,
		record{kind: kindAdd, part: 2, at: 3, entry: api.Entry{Term: 4, T: api.Txn{
			Session: 5, Seq: 600,
			Reads:  []api.Read{{Key: "a", Version: 700, Val: "v", There: true}, {Key: "bc"}},
			Writes: []api.Write{{Key: "d", Val: "w"}, {Key: "ef", Gone: true}},
		}}},
		record{kind: kindAdd, at: 1, entry: api.Entry{Term: 1, Seal: true, T: api.Txn{Session: -1, Seq: -600, Reads: []api.Read{{Version: -700}}}}})
}

func TestRecordsComeBack(t *testing.T) {
	for _, r := range manyRecords() {
		b := r.bytes()
		if got, ok := recordOf(b); !ok || !reflect.DeepEqual(got, r) {
			t.Errorf("%+v comes back as %+v, %v, from %x", r, got, ok, b)
		}
	}
}

// TestOneRecordOneText: bytes near those of a record, with a right sum, are another one's, or no one's.
func TestOneRecordOneText(t *testing.T) {
	for _, r := range manyRecords() {
		b := r.bytes()
		body := b[:len(b)-1]
		try := func(what string, x []byte) {
			t.Helper()
			if bytes.Equal(x, body) {
				return
			}
			x = append(x, sum(x))
			if got, ok := recordOf(x); ok && reflect.DeepEqual(got, r) || !ok && !reflect.DeepEqual(got, record{}) {
				t.Errorf("%+v: %s: %x is %+v, %v", r, what, x, got, ok)
			}
		}
		for k := range len(body) + 1 {
			try(fmt.Sprintf("cut off at %d", k), bytes.Clone(body[:k]))
			for c := range 256 {
				more := string(body[:k]) + string([]byte{byte(c)}) + string(body[k:])
				try(fmt.Sprintf("%d more at %d", c, k), []byte(more))
				if k < len(body) {
					turned := bytes.Clone(body)
					turned[k] = byte(c)
					try(fmt.Sprintf("%d at %d", c, k), turned)
				}
			}
			if k < len(body) {
				try(fmt.Sprintf("%d is lost", k), []byte(string(body[:k])+string(body[k+1:])))
				// As a number is longer than need be.
				longer := string(body[:k]) + string([]byte{body[k] | 0x80, 0}) + string(body[k+1:])
				try(fmt.Sprintf("%d is longer", k), []byte(longer))
			}
		}
	}
}

// TestGreatSizes: sizes beyond what is there, and below 0, end soon and are no record's.
func TestGreatSizes(t *testing.T) {
	for _, n := range []int{math.MinInt, -2, -1, 1, 2, 3, 100, 1 << 20, 1 << 40, math.MaxInt} {
		var w writer
		w.number(&n)
		size := string(w.b)
		for what, body := range map[string]string{
			"Reads":           "\x02\x00\x01\x01\x00\x01\x01" + size,
			"a Read's Key":    "\x02\x00\x01\x01\x00\x01\x01\x01" + size,
			"a Read's Val":    "\x02\x00\x01\x01\x00\x01\x01\x01\x01a\x05" + size,
			"Writes":          "\x02\x00\x01\x01\x00\x01\x01\x00" + size,
			"a Write's Key":   "\x02\x00\x01\x01\x00\x01\x01\x00\x01" + size,
			"a Write's Val":   "\x02\x00\x01\x01\x00\x01\x01\x00\x01\x01a" + size,
			"Writes, no more": "\x02\x00\x01\x01\x00\x01\x01\x00" + size + strings.Repeat("\x00", 1<<10),
		} {
			b := append([]byte(body), sum([]byte(body)))
			if _, ok := foldBehind(t, 0, b); ok {
				t.Errorf("%s of %d: %x is taken", what, n, b)
			}
		}
	}
}

func TestNumbersComeBack(t *testing.T) {
	check := func(v int) {
		t.Helper()
		var w writer
		w.number(&v)
		got := 77
		r := reader{b: append(bytes.Clone(w.b), "more"...)}
		if r.number(&got); got != v || string(r.b) != "more" {
			t.Errorf("%d comes back as %d, with %q behind, from %x", v, got, r.b, w.b)
		}
		if v >= 0 && !bytes.Equal(w.b, num.Put(v)) {
			t.Errorf("%d is %x", v, w.b)
		}
	}
	for shift := range 63 {
		for d := -2; d <= 2; d++ {
			check(1<<shift + d)
			check(-1<<shift + d)
		}
	}
	check(math.MaxInt)
	check(math.MinInt)
}

// TestTransactionsAsPut: one that may be stands in a record as txn.Put puts it.
func TestTransactionsAsPut(t *testing.T) {
	for _, x := range []api.Txn{
		{Session: 1, Seq: 1},
		{Session: 9, Seq: 1000, Writes: []api.Write{{Key: "k", Val: strings.Repeat("v", 16)}, {Key: "l", Gone: true}}},
		{Session: 5, Seq: 600, Reads: []api.Read{{Key: "a", Version: 700, Val: "v", There: true}, {Key: "bc", Version: 1 << 40}}},
	} {
		if !txn.May(x) {
			t.Fatalf("%+v may not be", x)
		}
		b := (&record{kind: kindAdd, at: 1, entry: api.Entry{Term: 1, T: x}}).bytes()
		if !bytes.Contains(b, txn.Put(x)) {
			t.Errorf("%x is not in %x", txn.Put(x), b)
		}
	}
}

// TestMostParts: as many members as fill an answer.
func TestMostParts(t *testing.T) {
	if size := int(reflect.TypeFor[api.Raft]().Size()); size != 168 || mostParts*size > 1<<31-1 || (mostParts+1)*size <= 1<<31-1 {
		t.Errorf("a member has %d bytes, %d are the most", size, mostParts)
	}
	if l, ok := Fold(nil, mostParts+1, 1, 1, 1); ok || l != nil {
		t.Error("there are more")
	}
}

// TestFrontKeepsNothing: what is cut off is kept nowhere, not even in spare room.
func TestFrontKeepsNothing(t *testing.T) {
	recs := append(ahead(3), (&record{kind: kindCut, at: 1}).bytes())
	l, ok := Fold(recs, 1, 1, 1, 1)
	if !ok || !raft.May(l[0]) {
		t.Fatalf("%v", ok)
	}
	for _, e := range l[0].Log[1:cap(l[0].Log)] {
		if !reflect.DeepEqual(e, api.Entry{}) {
			t.Errorf("%+v is kept", e)
		}
	}
}
