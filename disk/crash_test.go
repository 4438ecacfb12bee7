package disk_test

import (
	"fmt"
	"math"
	"slices"
	"strings"
	"testing"

	"diwan/api"
	"diwan/disk"
)

// keeps are what Crash may be told of a file with n bytes that are not sure.
func keeps(n int) []int {
	return []int{math.MinInt, math.MinInt + 1, -256, -2, -1, 0, 1, 2, n - 1, n, n + 1, n + 256, math.MaxInt32, 1 << 32, math.MaxInt - 1, math.MaxInt}
}

// TestCrashOfOne: so many bytes sure, so many others, and each number to keep.
func TestCrashOfOne(t *testing.T) {
	all := "abcdefghij"
	for sure := range 6 {
		for others := range 5 {
			for _, keep := range keeps(others) {
				b := newBoth(t, 20)
				b.append("a", all[:sure])
				b.sync("a")
				b.append("a", all[sure:sure+others])
				b.crash(keep)
				want := all[:sure+min(max(keep, 0), others)]
				if got, ok := b.d.Read("a"); !ok || string(got) != want {
					t.Errorf("%d bytes sure, %d others, %d kept: %q, %v", sure, others, keep, got, ok)
				}
				// all that is left is sure
				b.append("a", "xy")
				b.crash()
				if got, ok := b.d.Read("a"); !ok || string(got) != want {
					t.Errorf("%d bytes sure, %d others, %d kept, another crash: %q, %v", sure, others, keep, got, ok)
				}
			}
		}
	}
}

// TestCrashInPieces: what is not sure came bit by bit.
func TestCrashInPieces(t *testing.T) {
	for keep := -1; keep <= 7; keep++ {
		b := newBoth(t, 20)
		b.append("a", "1")
		b.append("a", "23")
		b.sync("a")
		b.append("a", "456")
		b.append("a", "")
		b.append("a", "78")
		b.crash(keep)
		b.append("a", "9")
		b.crash(keep)
	}
}

// TestCrashOfNothingSure: such a file stays, even of no bytes.
func TestCrashOfNothingSure(t *testing.T) {
	for _, load := range []string{"", "x", "xyz"} {
		d := disk.New(10)
		d.Append("a", []byte(load))
		for range 3 {
			d.Crash(nil)
			got, ok := d.Read("a")
			if !ok || len(got) != 0 || !slices.Equal(d.List(), []string{"a"}) || d.Used() != 0 {
				t.Errorf("Append of %q, Crash: %q, %v, files %q, %d bytes", load, got, ok, d.List(), d.Used())
			}
		}
		if got := d.Sync("a"); got != api.OK {
			t.Errorf("Sync of a file that a crash emptied: %d", got)
		}
	}
}

// many is a disk of n files that did not begin in the order of List, each with some bytes sure and some not.
func many(t *testing.T, n int) *both {
	b := newBoth(t, 1000)
	for i := range n {
		name := fmt.Sprintf("f%d", (i*7+3)%n)
		b.append(name, strings.Repeat("s", i%3))
		b.sync(name)
		b.append(name, "1234"[:(i+2)%5])
	}
	return b
}

// TestCrashByList: fewer numbers than files, as many, and more.
func TestCrashByList(t *testing.T) {
	for n := range 7 {
		for count := range 10 {
			for first := -1; first <= 5; first++ {
				b := many(t, n)
				var keep []int
				for i := range count {
					keep = append(keep, (first+1+i*3)%7-1)
				}
				b.crash(keep...)
				b.crash(keep...)
			}
		}
	}
}

// TestCrashOfEach: a number for one file alone, the others lose all that is not sure.
func TestCrashOfEach(t *testing.T) {
	sorted := []string{"!", "10", "9", "A", "a", "aa", "b"}
	for i := range sorted {
		d := disk.New(100)
		for _, k := range []int{3, 5, 0, 6, 2, 4, 1} {
			d.Append(sorted[k], []byte("xyz"))
		}
		keep := make([]int, len(sorted))
		keep[i] = 2
		d.Crash(keep)
		for k, name := range sorted {
			want := ""
			if k == i {
				want = "xy"
			}
			if got, ok := d.Read(name); !ok || string(got) != want {
				t.Errorf("number %d is 2: Read(%q) = %q, %v", i, name, got, ok)
			}
		}
	}
}

// TestCrashBehindRemove: a file that is gone has no number.
func TestCrashBehindRemove(t *testing.T) {
	for _, gone := range []string{"f0", "f1", "f2", "f3"} {
		b := many(t, 4)
		b.remove(gone)
		b.crash(1, 2, 3, 4)
	}
}

func TestCrashOfNoFiles(t *testing.T) {
	b := newBoth(t, 3)
	b.crash()
	b.crash(1, -1, math.MaxInt)
	b.append("a", "xyz")
	b.crash(2)
}

func TestCopy(t *testing.T) {
	b := newBoth(t, 20)
	b.move()
	b.append("b", "12")
	b.sync("b")
	b.append("b", "34")
	b.append("a", "")
	b.append("c", "5")
	b.sync("c")
	b.append("d", "6")
	b.move()
	b.append("b", "7")
	b.crash(9, 2)
	b.move()
	b.append("a", strings.Repeat("x", 20-b.p.used()))
	b.append("a", "x")
	b.move()
	b.append("a", "x")
}

// TestCopyIsApart: what is done to one is not done to the other, both ways.
func TestCopyIsApart(t *testing.T) {
	for _, do := range []func(b *both){
		func(b *both) { b.append("f0", "xy") },
		func(b *both) { b.append("new", "xy") },
		func(b *both) { b.append("new", "") },
		func(b *both) { b.sync("f0") },
		func(b *both) { b.sync("f1") },
		func(b *both) { b.cut("f0", 0) },
		func(b *both) { b.cut("f1", 1); b.append("f1", "qqqqq") },
		func(b *both) { b.remove("f2") },
		func(b *both) { b.crash() },
		func(b *both) { b.crash(1, 1, 1); b.append("f1", "qqqqq") },
		func(b *both) { b.append("f0", strings.Repeat("x", 1000-b.p.used())) },
	} {
		b := many(t, 5)
		c := &both{t: t, d: b.d.Copy(), p: b.p.copy(), done: "a copy"}
		do(c)
		wantLike(t, "what was copied", b.d, b.p)
		c = &both{t: t, d: b.d.Copy(), p: b.p.copy(), done: "a copy"}
		do(b)
		wantLike(t, "the copy", c.d, c.p)
		if c.d == b.d {
			t.Error("Copy is the disk itself")
		}
	}
}
