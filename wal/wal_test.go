package wal_test

import (
	"slices"
	"strings"
	"testing"

	"diwan/api"
	"diwan/disk"
	"diwan/wal"
)

func TestLimits(t *testing.T) {
	if api.MaxFrame != 60000 {
		t.Fatalf("MaxFrame is %d: these tests are for 60000", api.MaxFrame)
	}
}

func TestExample(t *testing.T) {
	d := disk.New(100)
	w, recs, why := wal.Open(d, 'r', 4000)
	if len(recs) != 0 || why != api.OK {
		t.Fatalf("Open of nothing: %q, %d", recs, why)
	}
	if why := w.Append([]byte("record")); why != api.OK {
		t.Errorf("Append: %d", why)
	}
	if why := w.Sync(); why != api.OK {
		t.Errorf("Sync: %d", why)
	}
	d.Crash(nil)
	w, recs, why = wal.Open(d, 'r', 4000)
	if len(recs) != 1 || string(recs[0]) != "record" || why != api.OK || w.Pieces() != 1 {
		t.Errorf("Append, Sync, Open: %q, %d", recs, why)
	}
}

// TestNames: the first pieces begin with no gap.
func TestNames(t *testing.T) {
	d := disk.New(1000)
	w, _, _ := wal.Open(d, 'b', 1)
	for range 12 {
		w.Append(nil)
	}
	want := []string{"b0001", "b0002", "b0003", "b0004", "b0005", "b0006", "b0007", "b0008", "b0009", "b0010", "b0011", "b0012"}
	if got := d.List(); !slices.Equal(got, want) {
		t.Errorf("List = %q", got)
	}
}

// lengths: of no bytes, of what changes how a size is written, and of as many as may be.
var lengths = []int{0, 1, 2, 255, 256, 257, 4000, 59999, 60000}

func TestAppendLengths(t *testing.T) {
	for _, size := range []int{1, 4000, 60000} {
		b := newBoth(t, 1<<20)
		b.open('a', size)
		var want []string
		for i, n := range lengths {
			rec := strings.Repeat(string(rune('a'+i)), n)
			b.append(rec)
			want = append(want, rec)
		}
		b.open('a', size)
		if !slices.Equal(b.recs, want) {
			t.Errorf("size %d: %d records", size, len(b.recs))
		}
	}
}

func TestAppendOfNothing(t *testing.T) {
	for _, rec := range [][]byte{nil, {}} {
		d := disk.New(100)
		w, _, _ := wal.Open(d, 'a', 10)
		if why := w.Append(rec); why != api.OK {
			t.Errorf("Append: %d", why)
		}
		if got, _ := has(d, "a0001"); got != framed("") {
			t.Errorf("a0001 is %q", got)
		}
		if _, recs, _ := wal.Open(d, 'a', 10); len(recs) != 1 || len(recs[0]) != 0 {
			t.Errorf("%q", recs)
		}
	}
}

// TestAppendTooLong: EArg, ahead of EFull, with no piece, in a piece's midst, and where the next one would begin.
func TestAppendTooLong(t *testing.T) {
	for _, room := range []int{-1, 0, 30, 1 << 20} {
		for _, size := range []int{1, 20, 60000} {
			b := newBoth(t, room)
			b.open('a', size)
			for range 4 {
				for _, n := range []int{60001, 60002, 65535, 65536, 65537, 1 << 17} {
					if got := b.w.Append(make([]byte, n)); got != api.EArg {
						t.Errorf("Append of %d bytes: %d", n, got)
					}
					b.append(strings.Repeat("x", n))
				}
				b.append("x")
			}
		}
	}
}

// TestSize: a piece of one byte less than size, of just size, and of more.
func TestSize(t *testing.T) {
	for _, size := range []int{1, 2, 5, 6, 7, 8, 12, 13, 20, 300, 4000, 59999, 60000} {
		for _, length := range []int{size - 2, size - 1, size, size + 1, size + 2} {
			if length < 6 {
				continue
			}
			b := newBoth(t, 1<<20)
			b.open('a', size)
			b.append(strings.Repeat("x", length-6))
			b.want(1, length)
			b.append("y")
			if length < size {
				b.want(1, length+7)
			} else {
				b.want(2, 7)
			}
			b.sync()
			b.open('a', size)
			b.append("z")
		}
	}
}

// TestSizeByMany: a piece that grows to size by small records.
func TestSizeByMany(t *testing.T) {
	for size := 1; size <= 40; size++ {
		b := newBoth(t, 1000)
		b.open('a', size)
		for i := range 30 {
			b.append("rec"[:i%4])
			if i%7 == 0 {
				b.sync()
			}
		}
	}
}

// TestSizeOfOpen: it is the last Open's size that counts, and what stands there by then.
func TestSizeOfOpen(t *testing.T) {
	for had := range 30 {
		for size := 1; size <= 31; size++ {
			b := newBoth(t, 1000)
			b.open('a', 60000)
			b.append(strings.Repeat("x", had))
			b.open('a', size)
			b.append("y")
			if had+6 < size {
				b.want(1, had+6+7)
			} else {
				b.want(2, 7)
			}
		}
	}
}

// TestLongPiece: what is not full may grow as much as a frame may have.
func TestLongPiece(t *testing.T) {
	b := newBoth(t, 1<<20)
	b.open('a', 60000)
	b.append(strings.Repeat("x", 59999-6))
	b.append(strings.Repeat("y", 60000))
	b.want(1, 59999+60006)
	b.append("")
	b.want(2, 6)
	b.open('a', 60000)
	if len(b.recs) != 3 {
		t.Errorf("%d records", len(b.recs))
	}
}

// TestSure: what is sure behind each step, done by hand.
func TestSure(t *testing.T) {
	d := disk.New(1000)
	sure := func(step string, want ...string) {
		t.Helper()
		c := d.Copy()
		c.Crash(nil)
		var got []string
		for _, name := range c.List() {
			s, _ := has(c, name)
			got = append(got, s)
		}
		if !slices.Equal(got, want) {
			t.Errorf("%s: %q is sure, want %q", step, got, want)
		}
	}
	w, _, _ := wal.Open(d, 'a', 10)
	sure("Open")
	w.Sync()
	sure("Sync of no piece")
	w.Append([]byte("1"))
	sure("Append to the first piece", "")
	w.Append([]byte("2"))
	sure("Append in its midst", "")
	w.Append([]byte("3"))
	sure("Append to the next piece", framed("1", "2"), "")
	w.Sync()
	sure("Sync", framed("1", "2"), framed("3"))
	w.Append([]byte("4"))
	sure("Append behind Sync", framed("1", "2"), framed("3"))
	w, _, _ = wal.Open(d, 'a', 10)
	sure("Open of what is whole", framed("1", "2"), framed("3"))
	w.Append([]byte("5"))
	sure("Append to a next piece", framed("1", "2"), framed("3", "4"), "")
	d.Append("a0003", []byte("bad"))
	w, _, _ = wal.Open(d, 'a', 10)
	sure("Open that mends", framed("1", "2"), framed("3", "4"), framed("5"))
	w.Append([]byte("6"))
	sure("Append behind that", framed("1", "2"), framed("3", "4"), framed("5"))
	w.Sync()
	sure("Sync of that", framed("1", "2"), framed("3", "4"), framed("5", "6"))
}

// TestSyncOfNoPiece: also where a file is there that is no piece, and where there is no room.
func TestSyncOfNoPiece(t *testing.T) {
	for _, room := range []int{-1, 0, 10, 1000} {
		b := newBoth(t, room)
		b.open('a', 10)
		for range 3 {
			if got := b.w.Sync(); got != api.OK {
				t.Errorf("Sync: %d", got)
			}
			b.sync()
		}
	}
	for _, name := range []string{"a0000", "a0002", "b0001", "a", "a1"} {
		b := newBoth(t, 1000)
		b.file(name, "not sure", 2)
		b.open('a', 10)
		b.sync()
		b.append("x")
		b.sync()
		b.append("y")
		b.append("z")
	}
}

// TestFull: each room, each size: at the first piece, at a next one, in a piece's midst; then all is as it was.
func TestFull(t *testing.T) {
	for room := -1; room <= 60; room++ {
		for _, size := range []int{1, 7, 8, 15, 60000} {
			b := newBoth(t, room)
			b.open('a', size)
			for i := range 12 {
				b.append("records"[:i%6])
				b.append("a longer record")
				if i%4 == 3 {
					b.sync()
				}
			}
			b.open('a', size)
		}
	}
}

// TestFullByHand: nothing begins, nothing is added, nothing is made sure.
func TestFullByHand(t *testing.T) {
	for _, x := range []struct {
		what       string
		room, size int
		recs       []string
	}{
		{"the first piece", 6, 10, nil},
		{"no room at all", 0, 10, nil},
		{"a next piece", 13, 7, []string{"1"}},
		{"the third piece", 20, 7, []string{"1", "2"}},
		{"a piece's midst", 13, 8, []string{"1"}},
		{"a piece's midst, long", 6006, 60000, []string{strings.Repeat("x", 5994)}},
	} {
		d := disk.New(x.room)
		w, _, _ := wal.Open(d, 'a', x.size)
		for _, rec := range x.recs {
			if why := w.Append([]byte(rec)); why != api.OK {
				t.Fatalf("%s: Append: %d", x.what, why)
			}
		}
		was, pieces := d.Copy(), w.Pieces()
		for range 3 {
			if why := w.Append([]byte("z")); why != api.EFull || w.Pieces() != pieces {
				t.Errorf("%s: Append: %d, %d pieces", x.what, why, w.Pieces())
			}
			wantSame(t, x.what, d, was)
		}
		// six bytes of room are left, where there are any
		if got := w.Append(nil); x.room > 0 && got != api.OK || x.room == 0 && got != api.EFull {
			t.Errorf("%s: Append of no bytes: %d", x.what, got)
		}
	}
}

// TestRoomAgain: who was told EFull goes on once there is room.
func TestRoomAgain(t *testing.T) {
	for _, size := range []int{1, 7, 8, 100} {
		b := newBoth(t, 40)
		b.file("other", strings.Repeat("o", 24), 3)
		b.open('a', size)
		for range 3 {
			b.append("1")
		}
		for _, d := range []*disk.Disk{b.d, b.p.d} {
			d.Cut("other", 5)
		}
		for range 6 {
			b.append("2")
		}
		b.crash()
		b.open('a', size)
	}
}

// full is a disk with so many pieces of letter m, each of one record of no bytes, and what more stands in the last.
func full(pieces int, last string) *disk.Disk {
	d := disk.New(1 << 20)
	for i := 1; i <= pieces; i++ {
		d.Append(piece('m', i), []byte(framed("")))
	}
	d.Append(piece('m', pieces), []byte(last))
	return d
}

// TestMostPieces: 9,999 of them, the last of which may have more.
func TestMostPieces(t *testing.T) {
	for _, x := range []struct {
		pieces int
		size   int
		fits   int // so many records more
	}{
		{9997, 6, 2}, {9998, 6, 1}, {9999, 6, 0}, {9999, 7, 1}, {9999, 12, 1}, {9999, 13, 2}, {9999, 1, 0}, {9998, 7, 3},
	} {
		d := full(x.pieces, "")
		d.Append("m10000", []byte(framed("no piece")+"bad"))
		w, recs, why := wal.Open(d, 'm', x.size)
		if len(recs) != x.pieces || why != api.OK || w.Pieces() != x.pieces {
			t.Fatalf("%d records, %d, %d pieces", len(recs), why, w.Pieces())
		}
		for i := range x.fits {
			if why := w.Append(nil); why != api.OK {
				t.Errorf("%d pieces of size %d: Append %d: %d", x.pieces, x.size, i, why)
			}
		}
		was := d.Copy()
		for range 2 {
			if why := w.Append(nil); why != api.EFull || w.Pieces() != 9999 {
				t.Errorf("%d pieces of size %d: Append: %d, %d pieces", x.pieces, x.size, why, w.Pieces())
			}
			if why := w.Append(make([]byte, 60001)); why != api.EArg {
				t.Errorf("Append of too much: %d", why)
			}
			wantSame(t, "all pieces are full", d, was)
		}
		if got, _ := has(d, "m10000"); got != framed("no piece")+"bad" || w.Sync() != api.OK {
			t.Errorf("m10000 is %q", got)
		}
		w, recs, _ = wal.Open(d, 'm', 60000)
		if len(recs) != x.pieces+x.fits || w.Append(nil) != api.OK || w.Pieces() != 9999 {
			t.Errorf("%d records, %d pieces", len(recs), w.Pieces())
		}
	}
}

// TestMostPiecesFromNone: from the first to the last.
func TestMostPiecesFromNone(t *testing.T) {
	d := disk.New(1 << 20)
	w, _, _ := wal.Open(d, 'm', 1)
	for i := range 9999 {
		if why := w.Append([]byte{byte(i)}); why != api.OK || w.Pieces() != i+1 {
			t.Fatalf("Append %d: %d, %d pieces", i, why, w.Pieces())
		}
	}
	if why := w.Append(nil); why != api.EFull || w.Pieces() != 9999 || len(d.List()) != 9999 {
		t.Errorf("Append: %d, %d pieces, %d files", why, w.Pieces(), len(d.List()))
	}
	d.Crash(nil)
	_, recs, _ := wal.Open(d, 'm', 1)
	if len(recs) != 9998 {
		t.Errorf("%d records behind a crash", len(recs))
	}
}

// TestMostPiecesBroken: the last one is, and the first one is.
func TestMostPiecesBroken(t *testing.T) {
	d := full(9999, "bad")
	w, recs, _ := wal.Open(d, 'm', 7)
	if len(recs) != 9999 || w.Pieces() != 9999 || w.Append(nil) != api.OK || w.Append(nil) != api.EFull {
		t.Errorf("%d records, %d pieces", len(recs), w.Pieces())
	}
	d.Append("m0001", []byte("bad"))
	w, recs, _ = wal.Open(d, 'm', 7)
	if len(recs) != 1 || w.Pieces() != 1 || !slices.Equal(d.List(), []string{"m0001"}) || d.Used() != 6 {
		t.Errorf("%d records, %d pieces, %d files", len(recs), w.Pieces(), len(d.List()))
	}
}

// TestTwoLetters: what is done to one is not seen of the other, but for the room.
func TestTwoLetters(t *testing.T) {
	d := disk.New(100)
	r, _, _ := wal.Open(d, 'r', 8)
	s, _, _ := wal.Open(d, 's', 60000)
	for i := range 4 {
		if r.Append([]byte{'r', byte(i)}) != api.OK || s.Append([]byte{'s', byte(i)}) != api.OK {
			t.Errorf("Append %d", i)
		}
	}
	if r.Pieces() != 4 || s.Pieces() != 1 {
		t.Errorf("%d and %d pieces", r.Pieces(), s.Pieces())
	}
	r.Sync()
	c := d.Copy()
	c.Crash(nil)
	if got, _ := has(c, "s0001"); got != "" {
		t.Errorf("Sync of r made s0001 sure: %q", got)
	}
	for range 2 {
		if s.Append(make([]byte, 100)) != api.EFull || r.Append(make([]byte, 30)) != api.OK || r.Append(nil) != api.EFull || s.Append(nil) != api.EFull {
			t.Error("64 bytes were used, and 36 came")
		}
		d.Cut("r0005", 0)
	}
	// one of them is mended
	d.Cut("r0002", 7)
	_, recs, _ := wal.Open(d, 'r', 8)
	_, other, _ := wal.Open(d, 's', 8)
	if len(recs) != 1 || len(other) != 4 || string(other[3]) != "s\x03" || !slices.Equal(d.List(), []string{"r0001", "r0002", "s0001"}) {
		t.Errorf("%q and %q, files %q", recs, other, d.List())
	}
}

// TestCrashUnderneath: who goes on behind a crash without Open goes on behind what is left.
func TestCrashUnderneath(t *testing.T) {
	for keep := range 20 {
		b := newBoth(t, 1000)
		b.open('a', 12)
		b.append("1")
		b.append("2")
		b.crash(keep)
		b.append("3")
		b.append("4")
		b.crash(0, keep)
		b.append("5")
		b.open('a', 12)
	}
}
