package num_test

import (
	"bytes"
	"math"
	"strings"
	"testing"

	"diwan/api"
	"diwan/num"
)

// behind is what may stand behind what was put.
var behind = []string{"", "\x00", "\x01", "\x7f", "\x80", "\xff", "\xff\xff\xff\xff\xff\xff\xff\xff\xff\xff", "more"}

// numbers: each count of bytes, at both of its ends.
var numbers = []struct {
	v    int
	want string
}{
	{0, "\x00"},
	{1, "\x01"},
	{127, "\x7f"},
	{128, "\x80\x01"},
	{129, "\x81\x01"},
	{255, "\xff\x01"},
	{256, "\x80\x02"},
	{300, "\xac\x02"},
	{1<<14 - 1, "\xff\x7f"},
	{1 << 14, "\x80\x80\x01"},
	{1<<21 - 1, "\xff\xff\x7f"},
	{1 << 21, "\x80\x80\x80\x01"},
	{1<<28 - 1, "\xff\xff\xff\x7f"},
	{1 << 28, "\x80\x80\x80\x80\x01"},
	{1<<35 - 1, "\xff\xff\xff\xff\x7f"},
	{1 << 35, "\x80\x80\x80\x80\x80\x01"},
	{1<<42 - 1, "\xff\xff\xff\xff\xff\x7f"},
	{1 << 42, "\x80\x80\x80\x80\x80\x80\x01"},
	{1<<49 - 1, "\xff\xff\xff\xff\xff\xff\x7f"},
	{1 << 49, "\x80\x80\x80\x80\x80\x80\x80\x01"},
	{1<<56 - 1, "\xff\xff\xff\xff\xff\xff\xff\x7f"},
	{1 << 56, "\x80\x80\x80\x80\x80\x80\x80\x80\x01"},
	{1<<63 - 1, "\xff\xff\xff\xff\xff\xff\xff\xff\x7f"},
	{0x0102030405060708, "\x88\x8e\x98\xa8\xc0\xe0\x80\x81\x01"},
}

// noNumbers begin with the Put of no number.
var noNumbers = []string{
	"",
	"\x80",
	"\xff",
	"\x80\x80",
	// more bytes than need be
	"\x80\x00",
	"\x81\x00",
	"\xff\x00",
	"\xff\x80\x00",
	"\x80\x80\x80\x80\x80\x80\x80\x80\x00",
	// an end that never comes
	"\xff\xff\xff\xff\xff\xff\xff\xff",
	"\xff\xff\xff\xff\xff\xff\xff\xff\xff",
	// above 2^63 - 1
	"\x80\x80\x80\x80\x80\x80\x80\x80\x80\x01",
	"\xff\xff\xff\xff\xff\xff\xff\xff\xff\x00",
	"\xff\xff\xff\xff\xff\xff\xff\xff\xff\x01",
	"\xff\xff\xff\xff\xff\xff\xff\xff\xff\x02",
	"\xff\xff\xff\xff\xff\xff\xff\xff\xff\xff\x01",
	strings.Repeat("\x80", 1000) + "\x01",
}

func TestPut(t *testing.T) {
	for _, x := range numbers {
		if got := num.Put(x.v); string(got) != x.want {
			t.Errorf("Put(%d) = %x, want %x", x.v, got, x.want)
		}
	}
}

func TestPutBelowZero(t *testing.T) {
	for _, v := range []int{-1, -2, -127, -128, -300, math.MinInt + 1, math.MinInt} {
		if got := num.Put(v); len(got) != 0 {
			t.Errorf("Put(%d) = %x, want nothing", v, got)
		}
	}
}

func TestTake(t *testing.T) {
	for _, x := range numbers {
		for _, rest := range behind {
			if v, n, ok := num.Take([]byte(x.want + rest)); v != x.v || n != len(x.want) || !ok {
				t.Errorf("Take(%x) = %d, %d, %v, want %d, %d, true", x.want+rest, v, n, ok, x.v, len(x.want))
			}
		}
	}
}

func TestTakeNo(t *testing.T) {
	for _, s := range noNumbers {
		wantNoNumber(t, []byte(s))
	}
	for _, x := range numbers {
		for k := range len(x.want) {
			wantNoNumber(t, []byte(x.want[:k]))
		}
	}
	wantNoNumber(t, nil)
}

func wantNoNumber(t *testing.T, b []byte) {
	t.Helper()
	if v, n, ok := num.Take(b); v != 0 || n != 0 || ok {
		t.Errorf("Take(%x) = %d, %d, %v, want 0, 0, false", b, v, n, ok)
	}
}

// TestTakeIsWhatPutMakes holds Take to the words of P1.1 on all that is of up to two bytes, with some third ones: it is the number whose Put stands in front, if there is one.
func TestTakeIsWhatPutMakes(t *testing.T) {
	made := map[string]int{}
	for v := range 1 << 14 {
		made[string(num.Put(v))] = v
	}
	if len(made) != 1<<14 {
		t.Fatalf("%d different Puts of %d numbers", len(made), 1<<14)
	}
	for a := range 256 {
		for b := range 256 {
			for _, rest := range []string{"", "\x00", "\x01", "\xff"} {
				s := string([]byte{byte(a), byte(b)}) + rest
				wantMade(t, made, s)
			}
		}
	}
}

func wantMade(t *testing.T, made map[string]int, s string) {
	t.Helper()
	if s[0] >= 0x80 && s[1] >= 0x80 {
		return // three bytes or none: TestTake, TestTakeNo
	}
	want, wantN, wantOK := 0, 0, false
	for k := 1; k <= 2; k++ {
		if v, ok := made[s[:k]]; ok {
			want, wantN, wantOK = v, k, true
		}
	}
	if v, n, ok := num.Take([]byte(s)); v != want || n != wantN || ok != wantOK {
		t.Errorf("Take(%x) = %d, %d, %v, want %d, %d, %v", s, v, n, ok, want, wantN, wantOK)
	}
}

func TestNumbersComeBack(t *testing.T) {
	for shift := range 63 {
		for d := -2; d <= 2; d++ {
			v := 1<<shift + d
			if v < 0 {
				continue
			}
			b := num.Put(v)
			if u, n, ok := num.Take(b); u != v || n != len(b) || !ok {
				t.Errorf("Take(Put(%d)) = %d, %d, %v", v, u, n, ok)
			}
		}
	}
}

// texts with how many bytes they have, as bytes.
var texts = []struct{ s, size string }{
	{"", "\x00"},
	{"a", "\x01"},
	{"ab", "\x02"},
	{"\x00", "\x01"},
	{"\xff\xfe\x80", "\x03"},
	{"h\u00e4lf", "\x05"}, // bytes are counted, not runes
	{strings.Repeat("x", 127), "\x7f"},
	{strings.Repeat("x", 128), "\x80\x01"},
	{strings.Repeat("\x80", api.MaxText-1), "\xfe\x01"},
	{strings.Repeat("y", api.MaxText), "\xff\x01"},
}

func TestPutText(t *testing.T) {
	for _, x := range texts {
		if got := num.PutText(x.s); string(got) != x.size+x.s {
			t.Errorf("PutText(%q) = %x, want %x", x.s, got, x.size+x.s)
		}
	}
}

func TestPutTextTooLong(t *testing.T) {
	for _, n := range []int{api.MaxText + 1, api.MaxText + 2, 1 << 14, 1 << 20} {
		if got := num.PutText(strings.Repeat("x", n)); len(got) != 0 {
			t.Errorf("PutText of %d bytes: %d bytes, want nothing", n, len(got))
		}
	}
	// Few runes, yet too many bytes.
	if got := num.PutText(strings.Repeat("\u00e4", api.MaxText/2+1)); len(got) != 0 {
		t.Errorf("PutText of %d bytes in runes of two: %d bytes, want nothing", api.MaxText+1, len(got))
	}
}

func TestTakeText(t *testing.T) {
	for _, x := range texts {
		for _, rest := range behind {
			want := x.size + x.s
			if s, n, ok := num.TakeText([]byte(want + rest)); s != x.s || n != len(want) || !ok {
				t.Errorf("TakeText(%x) = %q, %d, %v, want %q, %d, true", want+rest, s, n, ok, x.s, len(want))
			}
		}
	}
}

func TestTakeTextNo(t *testing.T) {
	for _, s := range noNumbers {
		wantNoText(t, []byte(s))
	}
	for _, x := range texts {
		whole := x.size + x.s
		for k := range len(whole) {
			wantNoText(t, []byte(whole[:k]))
		}
	}
	// How many bytes it has is said in more bytes than need be.
	wantNoText(t, []byte("\x82\x00ab"))
	// Too long a text, though all of it is there.
	for _, n := range []int{api.MaxText + 1, api.MaxText + 2, 1 << 14} {
		wantNoText(t, append(num.Put(n), strings.Repeat("x", n)...))
	}
	// The greatest number: a place behind that many bytes can't be told.
	wantNoText(t, append(num.Put(math.MaxInt), strings.Repeat("x", 300)...))
	wantNoText(t, nil)
}

func wantNoText(t *testing.T, b []byte) {
	t.Helper()
	if s, n, ok := num.TakeText(b); s != "" || n != 0 || ok {
		t.Errorf("TakeText(%x) = %q, %d, %v, want nothing, 0, false", b, s, n, ok)
	}
}

func TestOneBehindTheOther(t *testing.T) {
	var b []byte
	for i, x := range texts {
		b = append(b, num.Put(numbers[i].v)...)
		b = append(b, num.PutText(x.s)...)
	}
	for i, x := range texts {
		v, n, ok := num.Take(b)
		if v != numbers[i].v || !ok {
			t.Fatalf("number %d: %d, %v", i, v, ok)
		}
		b = b[n:]
		s, n, ok := num.TakeText(b)
		if s != x.s || !ok {
			t.Fatalf("text %d: %q, %v", i, s, ok)
		}
		b = b[n:]
	}
	if len(b) != 0 {
		t.Errorf("%d bytes are left", len(b))
	}
}

func TestWhatIsHandedInStays(t *testing.T) {
	for _, s := range append([]string{"\x05hello and more"}, noNumbers...) {
		room := append([]byte(s), "spare"...)
		b := room[:len(s)]
		num.Take(b)
		num.TakeText(b)
		if string(room) != s+"spare" {
			t.Errorf("%x is now %x", s+"spare", room)
		}
	}
}

func TestAnswersAreNewMemory(t *testing.T) {
	b := num.PutText("hello")
	s, _, _ := num.TakeText(b)
	clear(b)
	if s != "hello" {
		t.Errorf("the text hangs on the bytes that it was taken from: %q", s)
	}
	for _, v := range []int{0, 300, 1<<63 - 1} {
		one, other := num.Put(v), num.Put(v)
		before := bytes.Clone(other)
		for i := range one[:cap(one)] {
			one[:cap(one)][i]++
		}
		if !bytes.Equal(other, before) || !bytes.Equal(num.Put(v), before) {
			t.Errorf("two Puts of %d share memory", v)
		}
	}
}

func FuzzTake(f *testing.F) {
	for _, x := range numbers {
		f.Add([]byte(x.want))
	}
	for _, s := range noNumbers {
		f.Add([]byte(s))
	}
	f.Fuzz(func(t *testing.T, b []byte) {
		v, n, ok := num.Take(b)
		if ok && (v < 0 || !bytes.Equal(num.Put(v), b[:n])) || !ok && (v != 0 || n != 0) {
			t.Errorf("Take(%x) = %d, %d, %v", b, v, n, ok)
		}
	})
}

func FuzzTakeText(f *testing.F) {
	for _, x := range texts {
		f.Add([]byte(x.size + x.s))
	}
	for _, s := range noNumbers {
		f.Add([]byte(s))
	}
	f.Fuzz(func(t *testing.T, b []byte) {
		s, n, ok := num.TakeText(b)
		if ok && !bytes.Equal(num.PutText(s), b[:n]) || !ok && (s != "" || n != 0) {
			t.Errorf("TakeText(%x) = %q, %d, %v", b, s, n, ok)
		}
	})
}
