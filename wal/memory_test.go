package wal_test

import (
	"bytes"
	"strings"
	"testing"

	"diwan/api"
	"diwan/disk"
	"diwan/wal"
)

// turn turns all of b, and the room behind it.
func turn(b []byte) {
	b = b[:cap(b)]
	for i := range b {
		b[i] ^= 0xff
	}
}

// TestWhatIsHandedInStays: neither changed nor kept, with the room behind it.
func TestWhatIsHandedInStays(t *testing.T) {
	for _, size := range []int{1, 8, 100} {
		for _, rec := range []string{"", "1", "record", strings.Repeat("x", 200)} {
			room := []byte("ahead" + rec + "behind")
			was := bytes.Clone(room)
			b := newBoth(t, 1000)
			b.open('a', size)
			for range 3 {
				if b.w.Append(room[5:5+len(rec)]) != b.p.append(rec) || !bytes.Equal(room, was) {
					t.Fatalf("%q is now %q", was, room)
				}
			}
			turn(room)
			b.sync()
			b.open('a', size)
		}
	}
}

// TestWhatIsToldIsNew: who writes to a record, or to the room behind it, changes neither another one nor the disk.
func TestWhatIsToldIsNew(t *testing.T) {
	want := []string{"", "one", "", strings.Repeat("two", 300), "three", ""}
	for _, size := range []int{1, 10, 60000} {
		for _, end := range []string{"", "bad"} {
			d := disk.New(10000)
			w, _, _ := wal.Open(d, 'a', size)
			for _, rec := range want {
				w.Append([]byte(rec))
			}
			d.Append(piece('a', w.Pieces()), []byte(end))
			w, recs, _ := wal.Open(d, 'a', size)
			was := d.Copy()
			for i := range recs {
				turn(recs[i])
				for j := i + 1; j < len(recs); j++ {
					if string(recs[j]) != want[j] {
						t.Errorf("record %d shares memory with record %d", j, i)
					}
				}
			}
			for i := range recs[:cap(recs)] {
				recs[:cap(recs)][i] = nil
			}
			wantSame(t, "what was told is turned", d, was)
			_, recs, _ = wal.Open(d, 'a', size)
			// what was told stays as it is, whatever comes
			w.Append([]byte("later"))
			d.Cut("a0001", 0)
			d.Append("a0001", bytes.Repeat([]byte("%"), 100))
			if len(recs) != len(want) {
				t.Fatalf("%d records", len(recs))
			}
			for i, rec := range recs {
				if string(rec) != want[i] {
					t.Errorf("record %d is now %q", i, rec)
				}
			}
		}
	}
}

func TestNil(t *testing.T) {
	var w *wal.Wal
	for range 2 {
		for _, rec := range [][]byte{nil, {}, []byte("x"), make([]byte, 60000), make([]byte, 60001)} {
			if got := w.Append(rec); got != api.EArg {
				t.Errorf("Append of %d bytes: %d", len(rec), got)
			}
		}
		if got := w.Sync(); got != api.EArg {
			t.Errorf("Sync: %d", got)
		}
		if got := w.Pieces(); got != 0 {
			t.Errorf("Pieces: %d", got)
		}
	}
}

// TestZero: a Wal that Open did not make has no disk.
func TestZero(t *testing.T) {
	w := &wal.Wal{}
	for _, rec := range [][]byte{nil, []byte("x"), make([]byte, 60001)} {
		if got := w.Append(rec); got != api.EArg {
			t.Errorf("Append of %d bytes: %d", len(rec), got)
		}
	}
	if got := w.Sync(); got != api.OK {
		t.Errorf("Sync: %d", got)
	}
	if got := w.Pieces(); got != 0 {
		t.Errorf("Pieces: %d", got)
	}
}
