package txn_test

import (
	"bytes"
	"encoding/binary"
	"math"
	"slices"
	"strings"
	"testing"

	"diwan/api"
	"diwan/txn"
)

// behind is what may stand behind a transaction.
var behind = []string{"", "\x00", "\x01", "\x7f", "\x80", "\xff\xff\xff\xff\xff\xff\xff\xff\xff\xff", "\x01\x01\x00\x00", "more"}

// known: transactions whose bytes were written by hand.
func known() []struct {
	t    api.Txn
	want string
} {
	one := api.Txn{Session: 1, Seq: 1}
	ofWrite := one
	ofWrite.Writes = []api.Write{{Key: "a", Val: "xy"}}
	ofGone := one
	ofGone.Writes = []api.Write{{Key: "a", Gone: true}}
	ofNothing := one
	ofNothing.Writes = []api.Write{{Key: "a"}}
	ofRead := api.Txn{Session: 9, Seq: 1000, Reads: []api.Read{{Key: "k", Version: 300, Val: "v", There: true}}}
	ofNone := api.Txn{Session: 2, Seq: 127, Reads: []api.Read{{Key: "k"}}}
	ofDeleted := api.Txn{Session: 2, Seq: 128, Reads: []api.Read{{Key: "k", Version: math.MaxInt}}}
	return []struct {
		t    api.Txn
		want string
	}{
		{one, "\x01\x01\x00\x00"},
		{ofWrite, "\x01\x01\x00\x01\x01a\x02xy\x00"},
		{ofGone, "\x01\x01\x00\x01\x01a\x00\x01"},
		{ofNothing, "\x01\x01\x00\x01\x01a\x00\x00"},
		{ofRead, "\x09\xe8\x07\x01\x01k\xac\x02\x01v\x01\x00"},
		{ofNone, "\x02\x7f\x01\x01k\x00\x00\x00\x00"},
		{ofDeleted, "\x02\x80\x01\x01\x01k\xff\xff\xff\xff\xff\xff\xff\xff\x7f\x00\x00\x00"},
		{base(), "\x03\xac\x02" +
			"\x03" + "\x01a\xac\x02\x03one\x01" + "\x01b\x07\x00\x00" + "\x01c\x00\x00\x00" +
			"\x03" + "\x01a\x03two\x00" + "\x01b\x00\x01" + "\x01c\x00\x00"},
	}
}

// plain writes t as P5.2 says, word by word, whether it may be or not: a number below 0 as one above 2^63 - 1.
func plain(t api.Txn) []byte {
	var b []byte
	number := func(v int) { b = binary.AppendUvarint(b, uint64(v)) }
	text := func(s string) {
		number(len(s))
		b = append(b, s...)
	}
	flag := func(yes bool) { b = append(b, map[bool]byte{true: 1}[yes]) }
	number(t.Session)
	number(t.Seq)
	number(len(t.Reads))
	for _, r := range t.Reads {
		text(r.Key)
		number(r.Version)
		text(r.Val)
		flag(r.There)
	}
	number(len(t.Writes))
	for _, w := range t.Writes {
		text(w.Key)
		text(w.Val)
		flag(w.Gone)
	}
	return b
}

// parse reads b back as plain wrote it, as far as there is anything to read.
func parse(b []byte) (t api.Txn, n int, ok bool) {
	at, good := 0, true
	number := func() int {
		v, k := binary.Uvarint(b[at:])
		if k <= 0 {
			good = false
			return 0
		}
		at += k
		return int(v)
	}
	text := func() string {
		k := number()
		if k < 0 || k > len(b)-at {
			good = false
			return ""
		}
		at += k
		return string(b[at-k : at])
	}
	flag := func() bool {
		if at == len(b) {
			good = false
			return false
		}
		at++
		return b[at-1] == 1
	}
	t.Session, t.Seq = number(), number()
	for k := number(); k > 0 && good; k-- {
		t.Reads = append(t.Reads, api.Read{Key: text(), Version: number(), Val: text(), There: flag()})
	}
	for k := number(); k > 0 && good; k-- {
		t.Writes = append(t.Writes, api.Write{Key: text(), Val: text(), Gone: flag()})
	}
	return t, at, good
}

// plainTake is P5.2's word on Take: what b says, if it may be and is written so.
func plainTake(b []byte) (t api.Txn, n int, ok bool) {
	got, k, ok := parse(b)
	if !ok || !plainMay(got) || !bytes.Equal(plain(got), b[:k]) {
		return t, 0, false
	}
	return got, k, true
}

func wantTake(t *testing.T, b []byte, want api.Txn, wantN int) {
	t.Helper()
	if got, n, ok := txn.Take(b); !ok || n != wantN || !txn.Same(got, want) {
		t.Errorf("Take(%x) = %+v, %d, %v, want %+v, %d, true", b, got, n, ok, want, wantN)
	}
}

func wantNone(t *testing.T, b []byte) {
	t.Helper()
	if got, n, ok := txn.Take(b); ok || n != 0 || got.Session != 0 || got.Seq != 0 || len(got.Reads) != 0 || len(got.Writes) != 0 {
		t.Errorf("Take(%.200x) = %+v, %d, %v, want none", b, got, n, ok)
	}
}

// wantAsPlain holds Take to plainTake; yes: there is a transaction.
func wantAsPlain(t *testing.T, b []byte) bool {
	t.Helper()
	want, n, ok := plainTake(b)
	if ok {
		wantTake(t, b, want, n)
	} else {
		wantNone(t, b)
	}
	return ok
}

func TestPut(t *testing.T) {
	for _, x := range known() {
		if got := txn.Put(x.t); string(got) != x.want {
			t.Errorf("Put(%+v) = %x, want %x", x.t, got, x.want)
		}
		if got := plain(x.t); string(got) != x.want {
			t.Errorf("plain(%+v) = %x, want %x", x.t, got, x.want)
		}
	}
	for _, x := range mays() {
		if got, want := txn.Put(x.t), plain(x.t); !bytes.Equal(got, want) {
			t.Errorf("%s: Put(%+v) = %x, want %x", x.what, x.t, got, want)
		}
	}
}

func TestPutWhatMayNotBe(t *testing.T) {
	for _, x := range noes() {
		if got := txn.Put(x.t); len(got) != 0 {
			t.Errorf("%s: Put(%+v) = %x, want nothing", x.what, x.t, got)
		}
	}
}

// TestTakeWhatIsPut: whatever stands behind.
func TestTakeWhatIsPut(t *testing.T) {
	for _, x := range known() {
		for _, rest := range behind {
			wantTake(t, []byte(x.want+rest), x.t, len(x.want))
		}
	}
	for _, x := range mays() {
		b := txn.Put(x.t)
		for _, rest := range behind {
			wantTake(t, append(bytes.Clone(b), rest...), x.t, len(b))
		}
	}
}

// TestTakeWhatMayNotBe: its bytes are all there and in Put's form.
func TestTakeWhatMayNotBe(t *testing.T) {
	for _, x := range noes() {
		for _, rest := range behind {
			wantNone(t, append(plain(x.t), rest...))
		}
	}
}

// TestTakeWhatPutWouldNotWrite: each of these says what may be, but in other bytes, or nothing at all.
func TestTakeWhatPutWouldNotWrite(t *testing.T) {
	wantNone(t, nil)
	wantNone(t, []byte{})
	for _, s := range []string{
		"\x00", "\x01", "\xff", "more", strings.Repeat("\x00", 100), strings.Repeat("\x01", 100), strings.Repeat("\xff", 100), strings.Repeat("\x80", 100),
		// numbers in more bytes than need be
		"\x81\x00\x01\x00\x00",
		"\x01\x81\x00\x00\x00",
		"\x01\x01\x80\x00\x00",
		"\x01\x01\x00\x80\x00",
		"\x01\x01\x00\x81\x00\x01a\x02xy\x00",
		"\x01\x01\x00\x01\x81\x00a\x02xy\x00",
		"\x01\x01\x00\x01\x01a\x82\x00xy\x00",
		"\x01\x01\x01\x01k\x87\x00\x00\x00\x00",
		"\x01\x01\x01\x01k\x00\x80\x00\x00\x00",
		// a yes that is not 1
		"\x01\x01\x00\x01\x01a\x00\x02",
		"\x01\x01\x00\x01\x01a\x00\x80",
		"\x01\x01\x00\x01\x01a\x00\x81",
		"\x01\x01\x00\x01\x01a\x00\xff",
		"\x01\x01\x01\x01k\x01\x01v\x02\x00",
		"\x01\x01\x01\x01k\x01\x01v\x03\x00",
		"\x01\x01\x01\x01k\x01\x01v\x80\x00",
		"\x01\x01\x01\x01k\x01\x01v\xff\x00",
		// more than are there
		"\x01\x01\x01\x00",
		"\x01\x01\x00\x01",
		"\x01\x01\x06" + strings.Repeat("\x01k\x00\x00\x00", 5),
		// a size that no place can be told behind
		"\x01\x01\xff\xff\xff\xff\xff\xff\xff\xff\x7f",
		"\x01\x01\x00\xff\xff\xff\xff\xff\xff\xff\xff\x7f",
		"\x01\x01\x01\xff\xff\xff\xff\xff\xff\xff\xff\x7f",
		"\x01\x01\x00\x01\xff\xff\xff\xff\xff\xff\xff\xff\x7f",
		"\x01\x01\x00\x01\x01a\xff\xff\xff\xff\xff\xff\xff\xff\x7f",
		// a number above 2^63 - 1
		"\x81\x80\x80\x80\x80\x80\x80\x80\x80\x02\x01\x00\x00",
		"\x01\x01\x01\x01k\xff\xff\xff\xff\xff\xff\xff\xff\xff\x01\x00\x00\x00",
		"\x01\x01\x80\x80\x80\x80\x80\x80\x80\x80\x80\x01\x00",
	} {
		wantNone(t, []byte(s))
	}
}

// TestTakeOfGreatSizes ends at once, and takes no room for what is not there.
func TestTakeOfGreatSizes(t *testing.T) {
	most := string(binary.AppendUvarint(nil, math.MaxInt))
	row := strings.Repeat("\x01k\x00\x00\x00", 1<<16)
	for _, size := range []string{"\x07", "\x7f", "\xff\xff\x03", "\xff\xff\xff\xff\x07", most} {
		wantNone(t, []byte("\x01\x01"+size+row))
		wantNone(t, []byte("\x01\x01\x00"+size+row))
	}
}

func TestCutOff(t *testing.T) {
	for _, x := range slices.Concat(mays(), []named{{"full", full()}}) {
		b := plain(x.t)
		for k := range b {
			wantNone(t, b[:k])
			wantNone(t, slices.Clip(b[:k]))
		}
	}
}

// TestTurned: each byte turned to each other one, lost, or there twice: what is told then is what these bytes say, or none.
func TestTurned(t *testing.T) {
	yes, no := 0, 0
	count := func(ok bool) {
		if ok {
			yes++
		} else {
			no++
		}
	}
	for _, x := range []api.Txn{base(), full(), of("abc", "d"), of("", "")} {
		b := append(plain(x), "more"...)
		for i := range b {
			was := b[i]
			for c := range 256 {
				b[i] = byte(c)
				count(wantAsPlain(t, b))
			}
			b[i] = was
			count(wantAsPlain(t, slices.Concat(b[:i], b[i+1:])))
			count(wantAsPlain(t, slices.Concat(b[:i+1], b[i:])))
		}
	}
	if yes < 1000 || no < 1000 {
		t.Errorf("only %d of these say something, %d nothing", yes, no)
	}
}

// chance makes numbers of all kinds, the same each time.
type chance uint64

func (c *chance) below(n int) int {
	*c = *c*6364136223846793005 + 1442695040888963407
	return int(uint64(*c)>>33) % n
}

// txnOf makes a transaction, most often one that may be.
func (c *chance) txnOf() api.Txn {
	odd := func(v, other int) int {
		if c.below(60) == 0 {
			return other
		}
		return v
	}
	x := api.Txn{Session: odd(1+c.below(9), 10), Seq: odd(1+c.below(1000), 0)}
	ks := strings.Split("! a aa ab b c d k ~~~~~~~~", " ")
	for len(ks) > odd(c.below(9), 0) && len(x.Reads) < odd(6, 8) {
		r := api.Read{Key: ks[0], Version: odd(c.below(400), 1<<62), There: c.below(2) == 0}
		r.Val = strings.Repeat("v", odd(0, 1))
		if r.There {
			r.Version, r.Val = r.Version+odd(1, 0), strings.Repeat("w", odd(c.below(17), 17))
		}
		x.Reads = append(x.Reads, r)
		ks = ks[odd(1+c.below(2), 0)%len(ks):]
	}
	ks = strings.Split("! a aa b ~~~~~~~~", " ")
	for range odd(c.below(5), 5) {
		w := api.Write{Key: ks[0], Gone: c.below(2) == 0}
		w.Val = strings.Repeat("v", odd(0, 1))
		if !w.Gone {
			w.Val = strings.Repeat("w", odd(c.below(17), 17))
		}
		x.Writes = append(x.Writes, w)
		ks = ks[odd(1, 0):]
	}
	return x
}

// TestMany: all that P5.1 and P5.2 say, of many transactions and of their bytes, turned at some places.
func TestMany(t *testing.T) {
	c := chance(5)
	may := 0
	for range 20000 {
		x := c.txnOf()
		want := plainMay(x)
		if got := txn.May(x); got != want {
			t.Fatalf("May(%+v) = %v", x, got)
		}
		b := plain(x)
		if want {
			may++
			if got := txn.Put(x); !bytes.Equal(got, b) {
				t.Fatalf("Put(%+v) = %x, want %x", x, got, b)
			}
		} else if got := txn.Put(x); len(got) != 0 {
			t.Fatalf("Put(%+v) = %x, want nothing", x, got)
		}
		if wantAsPlain(t, b) != want {
			t.Fatalf("%+v is taken, or is not", x)
		}
		for range 1 + c.below(3) {
			b[c.below(len(b))] = byte(c.below(256))
			wantAsPlain(t, b)
		}
	}
	if may < 5000 || may > 19000 {
		t.Errorf("%d of them may be", may)
	}
}

// TestOneBehindTheOther: each is taken where the one ahead of it ends.
func TestOneBehindTheOther(t *testing.T) {
	var b []byte
	for _, x := range mays() {
		b = append(b, txn.Put(x.t)...)
	}
	for _, x := range mays() {
		got, n, ok := txn.Take(b)
		if !ok || !txn.Same(got, x.t) {
			t.Fatalf("%s: %+v, %v, want %+v", x.what, got, ok, x.t)
		}
		b = b[n:]
	}
	if len(b) != 0 {
		t.Errorf("%d bytes are left", len(b))
	}
}

// TestTakenStaysInside: bytes behind the end of what is handed in are not looked at.
func TestTakenStaysInside(t *testing.T) {
	for _, x := range known() {
		room := []byte("ahead" + x.want + "spare room")
		for end := 5; end <= 5+len(x.want); end++ {
			in := room[5:end]
			if _, n, ok := txn.Take(in); ok != (len(in) == len(x.want)) || ok && n != len(in) {
				t.Errorf("%x: %d, %v", in, n, ok)
			}
		}
		if string(room) != "ahead"+x.want+"spare room" {
			t.Errorf("%x is now %x", x.want, room)
		}
	}
}

func TestPutIsNewMemory(t *testing.T) {
	for _, x := range mays() {
		one, other := txn.Put(x.t), txn.Put(x.t)
		for i := range one[:cap(one)] {
			one[:cap(one)][i]++
		}
		if !bytes.Equal(other, plain(x.t)) || !bytes.Equal(txn.Put(x.t), other) {
			t.Errorf("%s: two Puts share memory", x.what)
		}
	}
}

func TestTakeIsNewMemory(t *testing.T) {
	for _, x := range mays() {
		b := plain(x.t)
		one, _, _ := txn.Take(b)
		other, _, _ := txn.Take(b)
		for i := range one.Reads[:cap(one.Reads)] {
			one.Reads[:cap(one.Reads)][i] = api.Read{Key: "other"}
		}
		for i := range one.Writes[:cap(one.Writes)] {
			one.Writes[:cap(one.Writes)][i] = api.Write{Key: "other"}
		}
		for i := range b {
			b[i] = 'z'
		}
		if !txn.Same(other, x.t) {
			t.Errorf("%s: what was taken hangs on other memory: %+v", x.what, other)
		}
	}
}

func FuzzTake(f *testing.F) {
	for _, x := range all() {
		f.Add(plain(x.t))
	}
	f.Fuzz(func(t *testing.T, b []byte) {
		if !wantAsPlain(t, b) {
			return
		}
		x, n, _ := txn.Take(b)
		if !txn.May(x) || !bytes.Equal(txn.Put(x), b[:n]) {
			t.Errorf("Take(%x) = %+v, %d", b, x, n)
		}
	})
}

// FuzzMay: what bytes say may be or not: Put tells the same of it.
func FuzzMay(f *testing.F) {
	for _, x := range all() {
		f.Add(plain(x.t), 3, 1)
	}
	f.Fuzz(func(t *testing.T, b []byte, s, n int) {
		x, _, _ := parse(b)
		want := plainMay(x)
		if txn.May(x) != want || want != bytes.Equal(txn.Put(x), plain(x)) || !want && len(txn.Put(x)) != 0 {
			t.Errorf("May(%+v) = %v, Put %x", x, txn.May(x), txn.Put(x))
		}
		if got := txn.Touches(x, s, n); got != plainTouches(x, s, n) || !slices.IsSorted(txn.Reads(x, n)) {
			t.Errorf("Touches(%+v, %d, %d) = %v, Reads %v", x, s, n, got, txn.Reads(x, n))
		}
	})
}
