package disk_test

import (
	"bytes"
	"math"
	"slices"
	"strings"
	"testing"

	"diwan/api"
	"diwan/disk"
)

var names = []string{"a", "!", "~", "!!", "~~", "Z", "0", "r0001", "s9999", "a/b:c", "\"", "\\", "1234567", "12345678", "!!!!!!!!", "~~~~~~~~"}

var noNames = []string{
	"", "123456789", "!!!!!!!!!", "~~~~~~~~~", strings.Repeat("a", 16), strings.Repeat("a", 256), strings.Repeat("a", 264), strings.Repeat("a", 1<<16+1),
	" ", "\x7f", "\x00", "\x1f", "\x80", "\xff", "\n", " a", "a ", "a b", "\x7fa", "a\x7f", "a\x00", "1234 678", "1234\x7f678", "1234567 ", " 2345678", "12345678\x00",
	"\u00e4", "\u2215", "\u0121", "\xa1", "\xfe",
}

func TestLimits(t *testing.T) {
	if api.MaxKey != 8 {
		t.Fatalf("MaxKey is %d: these tests are for 8", api.MaxKey)
	}
}

func TestExample(t *testing.T) {
	d := disk.New(10)
	if got := d.Append("a", []byte("xyz")); got != api.OK {
		t.Errorf("Append: %d", got)
	}
	d.Crash([]int{0})
	if b, ok := d.Read("a"); !ok || len(b) != 0 {
		t.Errorf("Append, Crash of nothing: %q, %v", b, ok)
	}
}

func TestNew(t *testing.T) {
	for _, room := range []int{math.MinInt, -2, -1, 0, 1, 2, 100} {
		b := newBoth(t, room)
		wantLike(t, b.done, b.d, b.p)
		if l, n := b.d.List(), b.d.Used(); len(l) != 0 || n != 0 {
			t.Errorf("New(%d): files %q, of %d bytes", room, l, n)
		}
		b.append("a", "x")
		b.append("a", "")
		b.append("a", "y")
	}
}

func TestMuchRoom(t *testing.T) {
	for _, room := range []int{math.MaxInt32, math.MaxInt - 1, math.MaxInt} {
		b := newBoth(t, room)
		b.append("a", "xy")
		b.append("b", "z")
		b.cut("a", 1)
		b.remove("b")
		b.append("a", "z")
	}
}

func TestNames(t *testing.T) {
	b := newBoth(t, 1000)
	for _, name := range names {
		b.append(name, "")
		b.append(name, name)
	}
	for _, name := range noNames {
		if got := b.d.Append(name, []byte("x")); got != api.EArg {
			t.Errorf("Append to %.20q: %d", name, got)
		}
		b.append(name, "x")
		b.append(name, "")
	}
	if l := b.d.List(); len(l) != len(names) || !slices.IsSorted(l) {
		t.Errorf("List = %q", l)
	}
}

// TestNamesEachByte: each byte, at each place of a name of each length.
func TestNamesEachByte(t *testing.T) {
	for n := range 11 {
		for at := range n {
			for c := range 256 {
				b := bytes.Repeat([]byte{'k'}, n)
				b[at] = byte(c)
				d := disk.New(0)
				got := d.Append(string(b), nil)
				if may := 1 <= n && n <= 8 && 33 <= c && c <= 126; may != (got == api.OK) || !may && got != api.EArg || may != slices.Equal(d.List(), []string{string(b)}) {
					t.Errorf("Append to %q: %d, files %q", b, got, d.List())
				}
			}
		}
	}
}

// TestNoSuchFile: whether it may be a name or not, and whatever else is asked.
func TestNoSuchFile(t *testing.T) {
	b := newBoth(t, 10)
	b.append("k", "xyz")
	for _, name := range slices.Concat(names, noNames, []string{"K", "kk", "j", "l"}) {
		if got, ok := b.d.Read(name); ok || len(got) != 0 {
			t.Errorf("Read(%.20q) = %q, %v", name, got, ok)
		}
		if got := b.d.Sync(name); got != api.ENone {
			t.Errorf("Sync(%.20q): %d", name, got)
		}
		if got := b.d.Remove(name); got != api.ENone {
			t.Errorf("Remove(%.20q): %d", name, got)
		}
		for _, n := range []int{math.MinInt, -1, 0, 1, math.MaxInt} {
			if got := b.d.Cut(name, n); got != api.ENone {
				t.Errorf("Cut(%.20q, %d): %d", name, n, got)
			}
		}
		wantLike(t, "asked for what is not there", b.d, b.p)
	}
}

func TestAppend(t *testing.T) {
	b := newBoth(t, 1000)
	for _, load := range []string{"", "x", "", "yz", "\x00\xff\x80\n", "", strings.Repeat("w", 200)} {
		b.append("a", load)
		b.append("b", load)
	}
	if got, ok := b.d.Read("a"); !ok || string(got) != "xyz\x00\xff\x80\n"+strings.Repeat("w", 200) {
		t.Errorf("Read = %q, %v", got, ok)
	}
}

// TestAppendNothing: a file begins by no bytes, too, even where there is no room.
func TestAppendNothing(t *testing.T) {
	for _, room := range []int{-1, 0, 2} {
		for _, load := range [][]byte{nil, {}} {
			d := disk.New(room)
			d.Append("full", make([]byte, max(room, 0)))
			if got := d.Append("a", load); got != api.OK {
				t.Errorf("Append of nothing: %d", got)
			}
			if got, ok := d.Read("a"); !ok || len(got) != 0 {
				t.Errorf("Read = %q, %v", got, ok)
			}
			if got := d.List(); !slices.Equal(got, []string{"a", "full"}) {
				t.Errorf("List = %q", got)
			}
			if got := d.Append("a", []byte("x")); got != api.EFull {
				t.Errorf("Append of a byte: %d", got)
			}
		}
	}
}

// TestRoom: each room, and each way to part it among a file that is there, one that is not, and what is to be added.
func TestRoom(t *testing.T) {
	for room := -1; room <= 6; room++ {
		for had := 0; had <= 7; had++ {
			for other := 0; other <= 7; other++ {
				for more := 0; more <= 7; more++ {
					b := newBoth(t, room)
					b.append("a", strings.Repeat("a", had))
					b.sync("a")
					b.append("b", strings.Repeat("b", other))
					b.append("a", strings.Repeat("c", more))
					b.append("c", strings.Repeat("d", more))
				}
			}
		}
	}
}

// TestFull: EFull leaves all as it was, a file that is not there and what is sure among it.
func TestFull(t *testing.T) {
	b := newBoth(t, 10)
	b.append("a", "12345")
	b.sync("a")
	b.append("a", "67")
	b.append("b", "89")
	for _, name := range []string{"a", "b", "c"} {
		for _, load := range []string{"xx", "xxx", strings.Repeat("x", 1<<16)} {
			if got := b.d.Append(name, []byte(load)); got != api.EFull {
				t.Errorf("Append(%q, %d bytes): %d", name, len(load), got)
			}
			wantLike(t, "full", b.d, b.p)
		}
	}
	if got := b.d.Append("c d", make([]byte, 100)); got != api.EArg {
		t.Errorf("Append to no name where there is no room: %d", got)
	}
	b.append("c", "x")
	b.append("c", "x")
	b.append("d", "")
	b.crash()
}

// TestRoomAgain: what is cut, removed, or lost is room again.
func TestRoomAgain(t *testing.T) {
	for _, free := range []func(b *both){
		func(b *both) { b.cut("a", 1) },
		func(b *both) { b.cut("a", 0) },
		func(b *both) { b.cut("a", 8) },
		func(b *both) { b.remove("a") },
		func(b *both) { b.crash() },
		func(b *both) { b.crash(1) },
		func(b *both) { b.crash(3) },
		func(b *both) { b.crash(9) },
	} {
		for again := range 10 {
			b := newBoth(t, 10)
			b.append("a", "12345")
			b.sync("a")
			b.append("a", "678")
			b.append("b", "90")
			free(b)
			b.append("b", strings.Repeat("x", again))
			b.append("a", strings.Repeat("y", again))
		}
	}
}

func TestCut(t *testing.T) {
	for sure := range 5 {
		for others := range 5 {
			for n := -2; n <= sure+others+2; n++ {
				b := newBoth(t, 20)
				b.append("a", "1234"[:sure])
				b.sync("a")
				b.append("a", "5678"[:others])
				b.append("b", "xy")
				b.cut("a", n)
				b.append("a", "z")
				b.cut("a", n)
				b.crash(0, 1)
				b.cut("b", n)
			}
		}
	}
}

func TestCutWrong(t *testing.T) {
	b := newBoth(t, 20)
	b.append("a", "12")
	b.sync("a")
	b.append("a", "345")
	for _, n := range []int{-1, -2, -5, math.MinInt, math.MinInt32, 6, 7, 1 << 32, math.MaxInt} {
		if got := b.d.Cut("a", n); got != api.EArg {
			t.Errorf("Cut to %d: %d", n, got)
		}
		wantLike(t, "cut wrong", b.d, b.p)
	}
}

// TestCutMakesSure: of what is left, what was not sure, too.
func TestCutMakesSure(t *testing.T) {
	for n := range 6 {
		d := disk.New(10)
		d.Append("a", []byte("12345"))
		if got := d.Cut("a", n); got != api.OK {
			t.Errorf("Cut to %d: %d", n, got)
		}
		d.Append("a", []byte("x"))
		d.Crash(nil)
		if got, ok := d.Read("a"); !ok || string(got) != "12345"[:n] {
			t.Errorf("Cut to %d, Crash: %q, %v", n, got, ok)
		}
	}
}

func TestSync(t *testing.T) {
	b := newBoth(t, 20)
	b.append("a", "")
	b.sync("a")
	b.append("a", "12")
	b.append("b", "x")
	b.sync("a")
	b.sync("a")
	b.append("a", "34")
	b.crash()
	if got, _ := b.d.Read("a"); string(got) != "12" {
		t.Errorf("Sync, Append, Crash: %q", got)
	}
	if got, ok := b.d.Read("b"); !ok || len(got) != 0 {
		t.Errorf("Append, Sync of another one, Crash: %q, %v", got, ok)
	}
	b.sync("b")
	b.append("b", "y")
	b.sync("b")
	b.crash()
}

// TestRemove: for good, though it was sure; what begins anew by that name has nothing of it.
func TestRemove(t *testing.T) {
	b := newBoth(t, 20)
	b.append("a", "12")
	b.sync("a")
	b.append("a", "3")
	b.append("b", "4")
	b.remove("a")
	b.remove("a")
	b.sync("a")
	b.cut("a", 0)
	b.crash(9, 9)
	if l := b.d.List(); !slices.Equal(l, []string{"b"}) {
		t.Errorf("Remove, Crash: %q", l)
	}
	b.append("a", "567")
	b.crash(1)
	if got, _ := b.d.Read("a"); string(got) != "5" {
		t.Errorf("Remove, Append, Crash: %q", got)
	}
	b.remove("a")
	b.remove("b")
	b.append("b", "")
	b.remove("b")
}

func TestList(t *testing.T) {
	sorted := []string{"!", "10", "9", "A", "Z", "a", "a!", "aa", "b", "~", "~~~~~~~~"}
	for from := range sorted {
		for step := 1; step < len(sorted); step++ {
			d := disk.New(0)
			for i := range sorted {
				d.Append(sorted[(from+i*step)%len(sorted)], nil)
			}
			if got := d.List(); !slices.Equal(got, sorted) {
				t.Fatalf("List = %q", got)
			}
		}
	}
}

// TestUsed: behind each step.
func TestUsed(t *testing.T) {
	d := disk.New(10)
	for i, x := range []struct {
		do   func()
		want int
	}{
		{func() {}, 0},
		{func() { d.Append("a", nil) }, 0},
		{func() { d.Append("a", []byte("123")) }, 3},
		{func() { d.Append("b", []byte("4567")) }, 7},
		{func() { d.Append("a", []byte("8901")) }, 7}, // no room
		{func() { d.Append("", []byte("8")) }, 7},     // no name
		{func() { d.Append("a", []byte("890")) }, 10},
		{func() { d.Sync("a") }, 10},
		{func() { d.Cut("a", 7) }, 10}, // too many
		{func() { d.Cut("a", -1) }, 10},
		{func() { d.Cut("a", 6) }, 10},
		{func() { d.Cut("a", 4) }, 8},
		{func() { d.Remove("c") }, 8},
		{func() { d.Remove("a") }, 4},
		{func() { d.Remove("a") }, 4},
		{func() { d.Crash([]int{3}) }, 3},
		{func() { d.Crash(nil) }, 3},
		{func() { d.Append("a", []byte("1234567")) }, 10},
		{func() { d.Crash(nil) }, 3},
		{func() { d.Cut("b", 0) }, 0},
		{func() { d.Remove("b") }, 0},
	} {
		x.do()
		if got := d.Used(); got != x.want {
			t.Errorf("step %d: Used = %d, want %d", i, got, x.want)
		}
	}
}
