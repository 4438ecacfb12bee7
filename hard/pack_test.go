package hard_test

import (
	"bytes"
	"fmt"
	"strings"
	"testing"

	"diwan/hard"
)

// texts with how many bytes they have, as num.Put writes that.
var texts = []struct{ s, size string }{
	{"", "\x00"},
	{"a", "\x01"},
	{"\x00", "\x01"},
	{"\x80\x00", "\x02"},
	{strings.Repeat("x", 126), "\x7e"},
	{strings.Repeat("x", 127), "\x7f"},
	{strings.Repeat("\x01", 128), "\x80\x01"},
	{strings.Repeat("\x80", 129), "\x81\x01"},
	{strings.Repeat("y", 255), "\xff\x01"},
	{strings.Repeat("y", 256), "\x80\x02"},
	{strings.Repeat("z", 16383), "\xff\x7f"},
	{strings.Repeat("z", 16384), "\x80\x80\x01"},
	{strings.Repeat("\x00", 60000), "\xe0\xd4\x03"},
	{strings.Repeat("long", 1<<19), "\x80\x80\x80\x01"},
}

// wantPack holds Pack and Unpack to just these.
func wantPack(t *testing.T, what string, recs [][]byte, want string) {
	t.Helper()
	if got := hard.Pack(recs); string(got) != want {
		t.Errorf("%s: Pack is %d bytes, want %d", what, len(got), len(want))
	}
	if got, ok := hard.Unpack([]byte(want)); !ok || !alikeRecs(got, recs) {
		t.Errorf("%s: Unpack is %d texts, %v, want %d", what, len(got), ok, len(recs))
	}
}

func TestPack(t *testing.T) {
	wantPack(t, "none", nil, "")
	wantPack(t, "one empty text", [][]byte{{}}, "\x00")
	wantPack(t, "one text that is nil", [][]byte{nil}, "\x00")
	wantPack(t, "three empty texts", [][]byte{nil, {}, nil}, "\x00\x00\x00")
	wantPack(t, "short ones", [][]byte{[]byte("a"), nil, []byte("bc")}, "\x01a\x00\x02bc")
	for i, x := range texts {
		wantPack(t, fmt.Sprintf("text %d", i), [][]byte{[]byte(x.s)}, x.size+x.s)
		for k, y := range texts {
			wantPack(t, fmt.Sprintf("texts %d, %d", i, k), [][]byte{[]byte(x.s), []byte(y.s)}, x.size+x.s+y.size+y.s)
		}
	}
	var recs [][]byte
	want := ""
	for i := range 1000 {
		recs = append(recs, []byte(fmt.Sprint("text ", i)))
		want += fmt.Sprintf("%ctext %d", len(recs[i]), i)
	}
	wantPack(t, "a thousand", recs, want)
}

func wantNoTexts(t *testing.T, what string, b string) {
	t.Helper()
	for _, ahead := range []string{"", "\x00", "\x01a", "\x02bc\x00"} {
		if got, ok := hard.Unpack([]byte(ahead + b)); ok || got != nil {
			t.Errorf("%s, behind %x: Unpack is %x, %v", what, ahead, got, ok)
		}
	}
}

// TestUnpackOfNothing: no texts, and yes.
func TestUnpackOfNothing(t *testing.T) {
	for _, b := range [][]byte{nil, {}} {
		if got, ok := hard.Unpack(b); !ok || len(got) != 0 {
			t.Errorf("%x, %v", got, ok)
		}
	}
}

// TestUnpackCutOff: at each place; where a text ends there, it is the Pack of those ahead.
func TestUnpackCutOff(t *testing.T) {
	for _, x := range texts {
		if len(x.s) > 20000 {
			continue
		}
		whole := x.size + x.s
		for k := 1; k < len(whole); k++ {
			if got, ok := hard.Unpack([]byte(whole[:k])); ok || got != nil {
				t.Fatalf("%d bytes, cut off at %d: %d texts", len(x.s), k, len(got))
			}
		}
	}
	recs := [][]byte{[]byte("abc"), nil, bytes.Repeat([]byte("d"), 130), []byte("e")}
	b := hard.Pack(recs)
	ends := map[int]int{0: 0, 4: 1, 5: 2, 137: 3, 139: 4}
	for k := range len(b) + 1 {
		got, ok := hard.Unpack(b[:k])
		n, end := ends[k]
		if ok != end || ok && !alikeRecs(got, recs[:n]) || !ok && got != nil {
			t.Errorf("cut off at %d: %x, %v", k, got, ok)
		}
	}
}

// TestUnpackWithBytesBehind: what is no text with its length.
func TestUnpackWithBytesBehind(t *testing.T) {
	for _, x := range texts[:8] {
		for _, rest := range []string{"\x01", "\x02a", "\x7f", "\x80", "\xff", "\x81\x00a", "a", "\xff\xff\xff\xff\xff\xff\xff\xff\x7f"} {
			wantNoTexts(t, fmt.Sprintf("%x behind %d bytes", rest, len(x.s)), x.size+x.s+rest)
		}
		// A zero is one text more.
		wantPack(t, "a zero behind", [][]byte{[]byte(x.s), nil}, x.size+x.s+"\x00")
	}
}

func TestUnpackOfWrongLengths(t *testing.T) {
	all := strings.Repeat("x", 1000)
	for _, b := range []string{
		// longer than need be
		"\x80\x00", "\x81\x00a", "\x83\x00abc", "\x83\x80\x00abc", "\x80\x80\x80\x00", "\xff\x00" + all[:127], "\x80\x81\x00" + all[:128],
		// longer than what is there
		"\x01", "\x02a", "\x7f" + all[:126], "\x80\x01" + all[:127], "\x81\x01" + all[:128],
		"\xff\xff\xff\xff\x07" + all, "\xff\xff\xff\xff\xff\xff\xff\xff\x7f", "\xff\xff\xff\xff\xff\xff\xff\xff\x7f" + all, "\xf8\xff\xff\xff\xff\xff\xff\xff\x7f" + all,
		// beyond all numbers
		"\xff\xff\xff\xff\xff\xff\xff\xff\xff\x00", "\x80\x80\x80\x80\x80\x80\x80\x80\x80\x01" + all, "\xff\xff\xff\xff\xff\xff\xff\xff\xff\x01" + all, "\x83\x80\x80\x80\x80\x80\x80\x80\x80\x02abc", strings.Repeat("\xff", 1000),
		// no end
		"\x80", "\xff", "\x80\x80", "\xff\xff\xff\xff\xff\xff\xff\xff\xff",
	} {
		wantNoTexts(t, fmt.Sprintf("%.12x", b), b)
	}
}

// TestUnpackIsWhatPackMakes holds Unpack to the words of P12.2, of all that is of up to three bytes, and some fourth ones: the texts are those whose Pack is just that.
func TestUnpackIsWhatPackMakes(t *testing.T) {
	check := func(b []byte) {
		got, ok := hard.Unpack(b)
		if want, wantOK := plainUnpack(b); ok != wantOK || !alikeRecs(got, want) || !ok && got != nil {
			t.Fatalf("Unpack(%x) = %x, %v, want %x, %v", b, got, ok, want, wantOK)
		}
		if ok && !bytes.Equal(hard.Pack(got), b) {
			t.Fatalf("Pack of Unpack(%x) = %x", b, hard.Pack(got))
		}
	}
	check(nil)
	for a := range 256 {
		check([]byte{byte(a)})
		for b := range 256 {
			check([]byte{byte(a), byte(b)})
			for _, c := range []byte{0, 1, 2, 3, 127, 128, 129, 255} {
				check([]byte{byte(a), byte(b), c})
				check([]byte{byte(a), byte(b), c, 0})
				check([]byte{byte(a), byte(b), c, 1})
			}
		}
	}
}

// plainUnpack is for texts of less than 128 bytes, each of whose lengths is one byte.
func plainUnpack(b []byte) ([][]byte, bool) {
	var l [][]byte
	for at := 0; at < len(b); {
		end := at + 1 + int(b[at])
		if b[at] >= 128 || end > len(b) {
			return nil, false
		}
		l = append(l, b[at+1:end])
		at = end
	}
	return l, true
}

func FuzzUnpack(f *testing.F) {
	for _, x := range texts[:8] {
		f.Add([]byte(x.size + x.s))
	}
	f.Add([]byte("\x01a\x00\x02bc"))
	f.Add([]byte("\x80\x00"))
	f.Fuzz(func(t *testing.T, b []byte) {
		recs, ok := hard.Unpack(b)
		if ok && !bytes.Equal(hard.Pack(recs), b) || !ok && recs != nil {
			t.Errorf("Unpack(%x) = %x, %v", b, recs, ok)
		}
	})
}
