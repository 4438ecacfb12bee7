package wal_test

import (
	"math"
	"slices"
	"strings"
	"testing"

	"diwan/api"
	"diwan/disk"
	"diwan/wal"
)

// wantNo wants that Open tells EArg and nothing else, and that d is as it was.
func wantNo(t *testing.T, d *disk.Disk, letter byte, size int) {
	t.Helper()
	was := d.Copy()
	w, recs, why := wal.Open(d, letter, size)
	if w != nil || len(recs) != 0 || why != api.EArg {
		t.Errorf("Open(%q, %d): %v, %d records, %d", letter, size, w, len(recs), why)
	}
	if d != nil {
		wantSame(t, "Open of what may not be", d, was)
	}
}

// broken is a disk on which each Open that may be has something to mend.
func broken() *disk.Disk {
	d := disk.New(1 << 20)
	for c := range 256 {
		for i := range 3 {
			d.Append(piece(byte(c), i+1), []byte(framed("x")+"y"))
		}
	}
	return d
}

func TestOpenOfNoDisk(t *testing.T) {
	for _, letter := range []byte{'a', 'r', 'z', '`', '{'} {
		for _, size := range []int{0, 1, 4000, 60000, 60001} {
			wantNo(t, nil, letter, size)
		}
	}
}

func TestOpenEachLetter(t *testing.T) {
	for c := range 256 {
		letter := byte(c)
		for _, size := range []int{1, 4000, 60000} {
			d := broken()
			if letter < 'a' || letter > 'z' {
				wantNo(t, d, letter, size)
				continue
			}
			w, recs, why := wal.Open(d, letter, size)
			if w == nil || len(recs) != 1 || string(recs[0]) != "x" || why != api.OK || w.Pieces() != 1 {
				t.Errorf("Open(%q, %d): %v, %q, %d", letter, size, w, recs, why)
			}
		}
	}
}

func TestOpenEachSize(t *testing.T) {
	for _, size := range []int{math.MinInt, -60000, -2, -1, 0, 60001, 60002, 65536, 65537, 1<<31 - 1, 1<<32 + 1, math.MaxInt} {
		wantNo(t, broken(), 'a', size)
		wantNo(t, broken(), '`', size)
	}
	for _, size := range []int{1, 2, 59999, 60000} {
		b := newBoth(t, 1000)
		b.open('a', size)
		b.append("x")
		b.open('a', size)
	}
}

func TestOpenNoPiece(t *testing.T) {
	for _, room := range []int{-1, 0, 100} {
		b := newBoth(t, room)
		b.open('r', 10)
		if b.w.Pieces() != 0 || len(b.d.List()) != 0 {
			t.Errorf("%d pieces, files %q", b.w.Pieces(), b.d.List())
		}
	}
}

// TestOpenOfOtherNames: files that are no pieces, though their names are nearly those of pieces, stay as they are.
func TestOpenOfOtherNames(t *testing.T) {
	others := []string{"r0000", "r1", "r01", "r001", "r00001", "r10000", "r0001x", "xr0001", "R0001", "s0001", "q0001", "0001", "r", "r000", "r-001", "r+001", "r00:1", "r001:", "r000/"}
	for _, pieces := range []int{0, 1, 2} {
		for _, bad := range []string{"", "bad"} {
			b := newBoth(t, 1000)
			for _, name := range others {
				b.file(name, framed("no", "piece")+"bad", 4)
			}
			for i := range pieces {
				b.file(piece('r', i+1), framed("a", "piece")+bad, 3)
			}
			b.open('r', 10)
			if want := framed("no", "piece") + "bad"; len(b.recs) != 2*min(pieces, 2-len(bad)/3) {
				t.Errorf("%d pieces: %q", pieces, b.recs)
			} else {
				for _, name := range others {
					if got, ok := has(b.d, name); !ok || got != want {
						t.Errorf("%q is %q, %v", name, got, ok)
					}
				}
			}
			b.sync()
			b.append("x")
			b.append("y")
			b.open('r', 10)
		}
	}
}

// kinds are what a piece may be: whole (an end of nothing), or what stands behind its last frame.
var kinds = []struct{ front, end string }{
	{"", ""},
	{framed(""), ""},
	{framed("one", "", "two"), ""},
	{framed(strings.Repeat("l", 300)), ""},
	{"", "\x00"},
	{"", framed("")[:5]},
	{framed("cut"), framed("off")[:8]},
	{framed("cut", "", ""), framed(strings.Repeat("m", 300))[:7]},
	{framed("turned"), turned(framed("no"), 7*8+4) + framed("whole")},
	{"", "\x00\x00\x00\x00\x00\x00" + framed("whole")},
	{framed("behind"), "\xff\xff\xff\xff\xff\xff\xff"},
}

// turned is s with one bit another.
func turned(s string, bit int) string {
	b := []byte(s)
	b[bit/8] ^= 1 << (bit % 8)
	return string(b)
}

// TestOpenOfPieces: each row of up to four pieces of any kind, each sure in part.
func TestOpenOfPieces(t *testing.T) {
	for n := range 4 {
		rows := 1
		for range n {
			rows *= len(kinds)
		}
		for row := range rows {
			b := newBoth(t, 10000)
			for i, k := 1, row; i <= n; i, k = i+1, k/len(kinds) {
				s := kinds[k%len(kinds)].front + kinds[k%len(kinds)].end
				b.file(piece('r', i), s, len(s)*(row%5)/4)
			}
			b.open('r', 1+row%20)
			b.wantByHand(n, row)
			// what was mended is whole
			recs := b.recs
			b.open('r', 1+row%20)
			if !slices.Equal(b.recs, recs) {
				t.Fatalf("%s: %q, and then %q", b.done, recs, b.recs)
			}
			b.append("more")
			b.sync()
			b.open('r', 30)
			if !slices.Equal(b.recs, append(recs, "more")) {
				t.Fatalf("%s: %q, and then %q", b.done, recs, b.recs)
			}
		}
	}
}

// wantByHand wants what Open leaves of a row of kinds.
func (b *both) wantByHand(n, row int) {
	b.t.Helper()
	var names []string
	used, sure, k := 0, 0, row
	for i := 1; i <= n; i, k = i+1, k/len(kinds) {
		x := kinds[k%len(kinds)]
		names = append(names, piece('r', i))
		used += len(x.front)
		if got, ok := has(b.d, piece('r', i)); !ok || got != x.front {
			b.t.Fatalf("%s: Read(%q) = %q, %v, want %q", b.done, piece('r', i), got, ok, x.front)
		}
		if x.end != "" {
			sure += len(x.front)
			break
		}
		sure += len(x.front) * (row % 5) / 4
	}
	if got := b.d.List(); !slices.Equal(got, names) || b.d.Used() != used || b.w.Pieces() != len(names) {
		b.t.Fatalf("%s: List = %q, Used = %d, Pieces = %d, want %q, %d", b.done, got, b.d.Used(), b.w.Pieces(), names, used)
	}
	c := b.d.Copy()
	c.Crash(nil)
	if c.Used() != sure {
		b.t.Fatalf("%s: %d bytes are sure, want %d", b.done, c.Used(), sure)
	}
}

// TestOpenCutOff: a piece that ends anywhere, as the first, the middle and the last of three.
func TestOpenCutOff(t *testing.T) {
	all := framed("one", "", strings.Repeat("x", 20), "y")
	for n := range len(all) + 1 {
		for at := 1; at <= 3; at++ {
			for _, sure := range []int{0, n / 2, n} {
				b := newBoth(t, 1000)
				for i := 1; i <= 3; i++ {
					if i == at {
						b.file(piece('a', i), all[:n], sure)
					} else {
						b.file(piece('a', i), framed("w", "hole"), 0)
					}
				}
				b.open('a', 10)
				b.append("behind")
			}
		}
	}
}

// TestOpenTurned: each bit of a piece, as the first, the middle and the last of three.
func TestOpenTurned(t *testing.T) {
	all := framed("one", "", "three")
	for bit := range 8 * len(all) {
		for at := 1; at <= 3; at++ {
			b := newBoth(t, 1000)
			for i := 1; i <= 3; i++ {
				if i == at {
					b.file(piece('a', i), turned(all, bit), 0)
				} else {
					b.file(piece('a', i), all, 0)
				}
			}
			b.open('a', 10)
			whole := 0
			if bit/8 >= len(framed("one")) {
				whole++
			}
			if bit/8 >= len(framed("one", "")) {
				whole++
			}
			if want := 3*(at-1) + whole; len(b.recs) != want || b.w.Pieces() != at {
				t.Errorf("bit %d of piece %d: %q, %d pieces", bit, at, b.recs, b.w.Pieces())
			}
		}
	}
}

// TestOpenGap: what stands behind a gap is no piece: it is not told, not counted, and left as it is, even where a piece ahead of the gap is mended.
func TestOpenGap(t *testing.T) {
	for set := range 1 << 6 {
		for bad := range 7 {
			b := newBoth(t, 1000)
			for i := 1; i <= 6; i++ {
				if set>>(i-1)&1 == 0 {
					continue
				}
				s := framed("rec", "ord")
				if i == bad {
					s += "bad"
				}
				b.file(piece('k', i), s, i)
			}
			b.open('k', 100)
			b.sync()
			b.append("x")
			b.sync()
		}
	}
	b := newBoth(t, 1000)
	b.file("k0001", framed("one")+"bad", 0)
	b.file("k0002", framed("two"), 0)
	b.file("k0004", framed("four")+"bad", 0)
	b.open('k', 1)
	if !slices.Equal(b.recs, []string{"one"}) || b.w.Pieces() != 1 || !slices.Equal(b.d.List(), []string{"k0001", "k0004"}) {
		t.Errorf("%q, %d pieces, files %q", b.recs, b.w.Pieces(), b.d.List())
	}
	if got, _ := has(b.d, "k0004"); got != framed("four")+"bad" {
		t.Errorf("k0004 is %q", got)
	}
}

// TestOpenBehindGap: a gap at the front, and so no piece.
func TestOpenBehindGap(t *testing.T) {
	b := newBoth(t, 1000)
	b.file("k0002", framed("two")+"bad", 2)
	b.file("k0003", framed("three"), 2)
	b.open('k', 1)
	b.want(0, 0)
	if len(b.recs) != 0 || !slices.Equal(b.d.List(), []string{"k0002", "k0003"}) {
		t.Errorf("%q, files %q", b.recs, b.d.List())
	}
	b.sync()
	b.append("one")
	b.want(1, 9)
}

// TestOpenMany: pieces of two, three and four digits, and one of all of them that is broken.
func TestOpenMany(t *testing.T) {
	for _, bad := range []int{0, 1, 9, 10, 11, 99, 100, 101, 999, 1000, 1001, 1100} {
		b := newBoth(t, 100000)
		var want []string
		for i := 1; i <= 1100; i++ {
			s := framed(piece('z', i))
			if i == bad {
				s += "\x00"
			}
			b.d.Append(piece('z', i), []byte(s))
			b.p.d.Append(piece('z', i), []byte(s))
			if bad == 0 || i <= bad {
				want = append(want, piece('z', i))
			}
		}
		b.open('z', 20)
		if !slices.Equal(b.recs, want) || !slices.Equal(b.d.List(), want) {
			t.Errorf("piece %d is broken: %d records, %d files", bad, len(b.recs), len(b.d.List()))
		}
		b.append("x")
	}
}

// TestOpenTwice: who opens again sees the same, whatever the size.
func TestOpenTwice(t *testing.T) {
	b := newBoth(t, 1000)
	b.open('a', 10)
	for _, rec := range []string{"", "one", "two", "a longer one", "", "three"} {
		b.append(rec)
		recs := slices.Concat(b.recs, []string{rec})
		for _, size := range []int{1, 60000, 10} {
			b.open('a', size)
			if !slices.Equal(b.recs, recs) {
				t.Fatalf("%s: %q, want %q", b.done, b.recs, recs)
			}
		}
	}
}
