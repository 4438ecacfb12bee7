package wal_test

import (
	"bytes"
	"encoding/binary"
	"fmt"
	"hash/crc32"
	"slices"
	"testing"

	"diwan/api"
	"diwan/disk"
	"diwan/wal"
)

// piece tells the name of a letter's i-th piece.
func piece(letter byte, i int) string {
	return fmt.Sprintf("%c%04d", letter, i)
}

// framed writes each record as P3.1 says, one behind the other.
func framed(recs ...string) string {
	var b []byte
	for _, rec := range recs {
		head := binary.BigEndian.AppendUint16(nil, uint16(len(rec)))
		sum := crc32.ChecksumIEEE(append(bytes.Clone(head), rec...))
		b = append(append(b, binary.BigEndian.AppendUint32(head, sum)...), rec...)
	}
	return string(b)
}

// frames tells the loads of the frames that s begins with, as P3.1 says, and how many bytes these are.
func frames(s string) ([]string, int) {
	var loads []string
	at := 0
	for len(s)-at >= 6 {
		n := int(s[at])<<8 | int(s[at+1])
		if n > 60000 || at+6+n > len(s) || framed(s[at+6:at+6+n]) != s[at:at+6+n] {
			break
		}
		loads = append(loads, s[at+6:at+6+n])
		at += 6 + n
	}
	return loads, at
}

// has tells the bytes of a file, and whether there is one.
func has(d *disk.Disk, name string) (string, bool) {
	b, ok := d.Read(name)
	return string(b), ok
}

// plain is a Wal by P8.1's words, done one by one, on a disk of so much room.
type plain struct {
	d      *disk.Disk
	room   int
	letter byte
	size   int
	pieces int
}

func (p *plain) open(letter byte, size int) ([]string, api.Errno) {
	p.pieces = 0
	if letter < 'a' || letter > 'z' || size < 1 || size > 60000 {
		return nil, api.EArg
	}
	p.letter, p.size = letter, size
	var there []string
	for i := 1; i <= 9999 && slices.Contains(p.d.List(), piece(letter, i)); i++ {
		there = append(there, piece(letter, i))
	}
	var recs []string
	for i, name := range there {
		s, _ := has(p.d, name)
		loads, n := frames(s)
		recs = append(recs, loads...)
		p.pieces = i + 1
		if n < len(s) {
			p.d.Cut(name, n)
			for _, behind := range there[i+1:] {
				p.d.Remove(behind)
			}
			break
		}
	}
	return recs, api.OK
}

func (p *plain) append(rec string) api.Errno {
	if len(rec) > 60000 {
		return api.EArg
	}
	b := framed(rec)
	last, _ := has(p.d, piece(p.letter, p.pieces))
	next := p.pieces == 0 || len(last) >= p.size
	if next && p.pieces == 9999 || p.d.Used()+len(b) > p.room {
		return api.EFull
	}
	if next {
		p.sync()
		p.pieces++
	}
	return p.d.Append(piece(p.letter, p.pieces), []byte(b))
}

func (p *plain) sync() api.Errno {
	if p.pieces == 0 {
		return api.OK
	}
	return p.d.Sync(piece(p.letter, p.pieces))
}

// wantSame wants d to tell what want tells, now and behind a crash that loses all that may be lost.
func wantSame(t *testing.T, what string, d, want *disk.Disk) {
	t.Helper()
	for _, when := range []string{"", ", crashed"} {
		if got, l := d.List(), want.List(); !slices.Equal(got, l) {
			t.Fatalf("%s%s: List = %q, want %q", what, when, got, l)
		}
		if got, n := d.Used(), want.Used(); got != n {
			t.Fatalf("%s%s: Used = %d, want %d", what, when, got, n)
		}
		for _, name := range want.List() {
			got, _ := has(d, name)
			if s, _ := has(want, name); got != s {
				t.Fatalf("%s%s: Read(%q) = %.80q of %d, want %.80q of %d", what, when, name, got, len(got), s, len(s))
			}
		}
		d, want = d.Copy(), want.Copy()
		d.Crash(nil)
		want.Crash(nil)
	}
}

// both are a Wal and a plain one to which the same is done.
type both struct {
	t    *testing.T
	d    *disk.Disk
	w    *wal.Wal
	p    *plain
	recs []string // what the last Open told
	done string
}

// newBoth has a disk of so much room, and nothing open so far.
func newBoth(t *testing.T, room int) *both {
	return &both{t: t, d: disk.New(room), p: &plain{d: disk.New(room), room: room}, done: fmt.Sprintf("New(%d)", room)}
}

// told wants that got is what P8.1 says, and that the pieces and the disk are, too.
func (b *both) told(got, want api.Errno, format string, of ...any) {
	b.t.Helper()
	b.done += " " + fmt.Sprintf(format, of...)
	if len(b.done) > 1500 {
		b.done = ".." + b.done[len(b.done)-1400:]
	}
	if got != want {
		b.t.Fatalf("%s: %d, want %d", b.done, got, want)
	}
	if got := b.w.Pieces(); got != b.p.pieces {
		b.t.Fatalf("%s: Pieces = %d, want %d", b.done, got, b.p.pieces)
	}
	wantSame(b.t, b.done, b.d, b.p.d)
}

// file puts bytes at a file's end, past all Wals: so many of these bytes, from the front, are sure.
func (b *both) file(name, s string, sure int) {
	b.t.Helper()
	for _, d := range []*disk.Disk{b.d, b.p.d} {
		if d.Append(name, []byte(s[:sure])) != api.OK || sure > 0 && d.Sync(name) != api.OK || d.Append(name, []byte(s[sure:])) != api.OK {
			b.t.Fatalf("%s: no file %q", b.done, name)
		}
	}
	b.told(0, 0, "file(%q, %.20q of %d, %d)", name, s, len(s), sure)
}

func (b *both) open(letter byte, size int) {
	b.t.Helper()
	w, recs, got := wal.Open(b.d, letter, size)
	wanted, want := b.p.open(letter, size)
	b.w, b.recs = w, wanted
	b.told(got, want, "Open(%q, %d)", letter, size)
	if (w != nil) != (want == api.OK) || len(recs) != len(wanted) {
		b.t.Fatalf("%s: a Wal: %v, %d records, want %d", b.done, w != nil, len(recs), len(wanted))
	}
	for i, rec := range recs {
		if string(rec) != wanted[i] {
			b.t.Fatalf("%s: record %d = %.80q of %d, want %.80q of %d", b.done, i, rec, len(rec), wanted[i], len(wanted[i]))
		}
	}
}

func (b *both) append(rec string) {
	b.t.Helper()
	b.told(b.w.Append([]byte(rec)), b.p.append(rec), "Append(%.20q of %d)", rec, len(rec))
}

func (b *both) sync() {
	b.t.Helper()
	b.told(b.w.Sync(), b.p.sync(), "Sync")
}

func (b *both) crash(keep ...int) {
	b.t.Helper()
	b.d.Crash(keep)
	b.p.d.Crash(keep)
	b.told(0, 0, "Crash(%d)", keep)
}

// want wants the last piece to have so many bytes, and that there are so many pieces: what a test takes for granted of its own.
func (b *both) want(pieces, length int) {
	b.t.Helper()
	last, _ := has(b.d, piece(b.p.letter, pieces))
	if b.w.Pieces() != pieces || len(last) != length {
		b.t.Fatalf("%s: %d pieces, the last of %d bytes, want %d, %d", b.done, b.w.Pieces(), len(last), pieces, length)
	}
}
