package msg_test

import (
	"bytes"
	"encoding/binary"
	"math"
	"reflect"
	"slices"
	"strings"
	"testing"

	"diwan/api"
	"diwan/msg"
)

// behind is what may not stand behind a letter.
var behind = []string{"\x00", "\x01", "\x7f", "\x80", "\xff", "\x00\x00\x00\x00", "\xff\xff\xff\xff\xff\xff\xff\xff\xff\xff", "more"}

func wantTake(t *testing.T, b []byte, want api.Msg) {
	t.Helper()
	if got, ok := msg.Take(b); !ok || !plainSame(got, want) {
		t.Errorf("Take(%x) = %+v, %v, want %+v", b, got, ok, want)
	}
}

func wantNone(t *testing.T, b []byte) {
	t.Helper()
	if got, ok := msg.Take(b); ok || !reflect.DeepEqual(plain(got), api.Msg{}) {
		t.Errorf("Take(%.200x) = %+v, %v, want none", b, got, ok)
	}
}

// wantOwn holds Take to P6.1: what is told may be, and its Put is just b; yes: there is a letter.
func wantOwn(t *testing.T, b []byte) bool {
	t.Helper()
	got, ok := msg.Take(b)
	if !ok {
		wantNone(t, b)
		return false
	}
	if !plainMay(got) || !bytes.Equal(msg.Put(got), b) {
		t.Errorf("Take(%x) = %+v, whose Put is %x", b, got, msg.Put(got))
	}
	return true
}

func TestWhatIsPutIsTaken(t *testing.T) {
	for _, x := range mays() {
		b := msg.Put(x.m)
		if len(b) == 0 {
			t.Errorf("%s: Put(%+v) is nothing", x.what, x.m)
		}
		wantTake(t, b, x.m)
		wantTake(t, msg.Put(roomy(x.m)), x.m)
	}
}

func TestPutWhatMayNotBe(t *testing.T) {
	for _, x := range noes() {
		if b := msg.Put(x.m); len(b) != 0 {
			t.Errorf("%s: Put(%.500v) = %x, want nothing", x.what, x.m, b)
		}
	}
}

// TestPutTellsApart: letters have the same bytes where they are the same, and only there.
func TestPutTellsApart(t *testing.T) {
	of := map[string]api.Msg{}
	for _, x := range mays() {
		b := string(msg.Put(x.m))
		if y, ok := of[b]; ok && !plainSame(x.m, y) {
			t.Errorf("%+v and %+v are both %x", x.m, y, b)
		}
		if y, ok := msg.Take(msg.Put(plain(x.m))); !ok || !plainSame(y, x.m) || string(msg.Put(plain(x.m))) != b {
			t.Errorf("%s: nil and an empty list are one, but for their bytes", x.what)
		}
		of[b] = x.m
	}
}

func TestTakeOfNoLetter(t *testing.T) {
	wantNone(t, nil)
	wantNone(t, []byte{})
	for v := range 256 {
		for _, n := range []int{1, 2, 3, 4, 5, 8, 16, 100, 1 << 16} {
			wantOwn(t, bytes.Repeat([]byte{byte(v)}, n))
		}
	}
	for _, n := range []int{1, 2, 3, 4, 5, 100, 1 << 16} {
		for _, s := range []string{"\x00", "\x80", "\xff"} {
			wantNone(t, []byte(strings.Repeat(s, n)))
		}
	}
}

// TestBehind: bytes behind a letter, or ahead of it, are none of its Put.
func TestBehind(t *testing.T) {
	for _, x := range mays() {
		b := msg.Put(x.m)
		for _, rest := range behind {
			wantNone(t, slices.Concat(b, []byte(rest)))
			wantOwn(t, slices.Concat([]byte(rest), b))
		}
		wantNone(t, slices.Concat(b, b))
		wantNone(t, slices.Concat(b, msg.Put(least(api.Vote))))
	}
}

func TestCutOff(t *testing.T) {
	for _, x := range mays() {
		b := msg.Put(x.m)
		for k := range b {
			wantNone(t, b[:k])
			wantNone(t, slices.Clip(b[:k]))
		}
	}
}

// masks are ways to turn one of n bytes: all there are, or, where there are many bytes, each bit.
func masks(n int) []byte {
	if n > 400 {
		return []byte{1, 2, 4, 8, 16, 32, 64, 128, 255}
	}
	var l []byte
	for c := 1; c < 256; c++ {
		l = append(l, byte(c))
	}
	return l
}

// TestTurned: bytes turned to others, lost, or there twice (each one, of letters that are not long): what is told then is another letter, whose Put is these bytes, or none.
func TestTurned(t *testing.T) {
	yes, no := 0, 0
	count := func(t *testing.T, b []byte, was api.Msg) {
		if !wantOwn(t, b) {
			no++
			return
		}
		yes++
		if got, _ := msg.Take(b); plainSame(got, was) {
			t.Errorf("%x says %+v, too", b, was)
		}
	}
	for _, kind := range kinds {
		for _, x := range []api.Msg{least(kind), of(kind, rich()), of(kind, top())} {
			b := msg.Put(x)
			for i := 0; i < len(b); i += 1 + len(b)/400 {
				was := b[i]
				for _, c := range masks(len(b)) {
					b[i] = was ^ c
					count(t, b, x)
				}
				b[i] = was
				count(t, slices.Concat(b[:i], b[i+1:]), x)
				count(t, slices.Concat(b[:i+1], b[i:]), x)
			}
		}
	}
	if yes < 1000 || no < 1000 {
		t.Errorf("only %d of these say something, %d nothing", yes, no)
	}
}

// TestOtherNumbers: at each place a number in more bytes than need be, or one as great as can be: Take ends at once, and takes no room for what is not there.
func TestOtherNumbers(t *testing.T) {
	for _, kind := range kinds {
		for _, x := range []api.Msg{least(kind), of(kind, rich())} {
			b := msg.Put(x)
			for i := range b {
				long := slices.Concat(b[:i], []byte{b[i] | 0x80, 0}, b[i+1:])
				if got, ok := msg.Take(long); ok && (plainSame(got, x) || !bytes.Equal(msg.Put(got), long)) {
					t.Errorf("Take(%x) = %+v", long, got)
				}
				for _, v := range []uint64{5, 7, 65, 300, most + 1, math.MaxInt, math.MaxUint64} {
					wantOwn(t, slices.Concat(binary.AppendUvarint(bytes.Clone(b[:i]), v), b[i+1:]))
					wantOwn(t, slices.Concat(binary.AppendUvarint(bytes.Clone(b[:i]), v), b[i+1:], make([]byte, 1<<12)))
				}
			}
		}
	}
}

// TestMany: all that P6.1 says, of many letters and of their bytes, turned at some places.
func TestMany(t *testing.T) {
	c := chance(6)
	may := 0
	for range 20000 {
		x := c.letter()
		want := plainMay(x)
		if got := msg.May(x); got != want {
			t.Fatalf("May(%+v) = %v", x, got)
		}
		b := msg.Put(x)
		if len(b) > 0 != want {
			t.Fatalf("Put(%+v) = %x", x, b)
		}
		if !want {
			continue
		}
		may++
		wantTake(t, b, x)
		for range 1 + c.below(3) {
			b[c.below(len(b))] = byte(c.below(256))
			wantOwn(t, b)
		}
	}
	if may < 5000 || may > 19000 {
		t.Errorf("%d of them may be", may)
	}
}

// TestTakenStaysInside: bytes behind the end of what is handed in are not looked at, and none is changed.
func TestTakenStaysInside(t *testing.T) {
	for _, x := range mays() {
		b := string(msg.Put(x.m))
		room := []byte("ahead" + b + "spare room")
		for _, end := range []int{5, 6, 5 + len(b)/2, 5 + len(b) - 1, 5 + len(b), 5 + len(b) + 1} {
			if _, ok := msg.Take(room[5:end]); ok != (end == 5+len(b)) {
				t.Errorf("%s: %d of %d bytes: %v", x.what, end-5, len(b), ok)
			}
		}
		if string(room) != "ahead"+b+"spare room" {
			t.Errorf("%s: %x is now %x", x.what, b, room)
		}
	}
}

func TestPutIsNewMemory(t *testing.T) {
	for _, x := range mays() {
		in := copyOf(x.m)
		one, other := msg.Put(in), msg.Put(in)
		for i := range one[:cap(one)] {
			one[:cap(one)][i]++
		}
		if !plainSame(in, x.m) || !bytes.Equal(other, msg.Put(x.m)) {
			t.Errorf("%s: two Puts share memory", x.what)
		}
		spoil(&in)
		wantTake(t, other, x.m)
	}
}

// spoil writes over all that m's lists have, their spare room too.
func spoil(m *api.Msg) {
	for i := range m.Entries {
		spoilTxn(&m.Entries[i].T)
	}
	spoilTxn(&m.T)
	fill(m.Entries, api.Entry{Term: 77})
	fill(m.Keys, "other")
	fill(m.Got, api.Read{Key: "other"})
}

func spoilTxn(t *api.Txn) {
	fill(t.Reads, api.Read{Key: "other"})
	fill(t.Writes, api.Write{Key: "other"})
}

func fill[T any](l []T, with T) {
	l = l[:cap(l)]
	for i := range l {
		l[i] = with
	}
}

func TestTakeIsNewMemory(t *testing.T) {
	for _, x := range mays() {
		b := msg.Put(x.m)
		one, _ := msg.Take(b)
		other, _ := msg.Take(b)
		spoil(&one)
		fill(b, 'z')
		if !plainSame(other, x.m) {
			t.Errorf("%s: what was taken hangs on other memory: %+v", x.what, other)
		}
	}
}

// TestTakenListsStandAlone: no two lists of one answer share memory.
func TestTakenListsStandAlone(t *testing.T) {
	for _, x := range mays() {
		got, _ := msg.Take(msg.Put(x.m))
		for i := range got.Entries {
			spoilTxn(&got.Entries[i].T)
			for j := i + 1; j < len(got.Entries); j++ {
				if !plainSame(api.Msg{T: got.Entries[j].T}, api.Msg{T: x.m.Entries[j].T}) {
					t.Errorf("%s: entries %d and %d share memory", x.what, i, j)
				}
			}
		}
		fill(got.Keys, "other")
		if !plainSame(api.Msg{Got: got.Got, T: got.T}, api.Msg{Got: x.m.Got, T: x.m.T}) {
			t.Errorf("%s: two lists share memory", x.what)
		}
	}
}

func FuzzTake(f *testing.F) {
	for _, x := range mays() {
		f.Add(msg.Put(x.m))
	}
	f.Fuzz(func(t *testing.T, b []byte) {
		if !wantOwn(t, b) {
			return
		}
		x, _ := msg.Take(b)
		if !msg.May(x) || !msg.Same(x, copyOf(x)) {
			t.Errorf("Take(%x) = %+v", b, x)
		}
		for _, rest := range behind {
			wantNone(t, slices.Concat(b, []byte(rest)))
		}
	})
}

// FuzzMay: of letters by chance, in which one number is another: what may be is put and taken.
func FuzzMay(f *testing.F) {
	for i := range 50 {
		f.Add(uint64(i), i%20, i)
	}
	f.Fuzz(func(t *testing.T, from uint64, field, v int) {
		c := chance(from)
		x := c.letter()
		if l := fields(); 0 <= field && field < len(l) && isNumber(l[field]) {
			setNumber(&x, l[field], v)
		}
		want := plainMay(x)
		b := msg.Put(x)
		if msg.May(x) != want || len(b) > 0 != want {
			t.Errorf("May(%+v) = %v, Put %x", x, msg.May(x), b)
		}
		if want {
			wantTake(t, b, x)
		}
	})
}
