package crc_test

import (
	"bytes"
	"hash/crc32"
	"slices"
	"strings"
	"testing"

	"diwan/crc"
)

// known: sums that were reckoned elsewhere.
var known = []struct {
	b    string
	want uint32
}{
	{"", 0},
	{"\x00", 0xD202EF8D},
	{"\xff", 0xFF000000},
	{"a", 0xE8B7BE43},
	{"abc", 0x352441C2},
	{"123456789", 0xCBF43926},
	{"\x00\x00\x00\x00", 0x2144DF1C},
	{"\xff\xff\xff\xff", 0xFFFFFFFF},
	{"The quick brown fox jumps over the lazy dog", 0x414FA339},
	{strings.Repeat("\x00", 32), 0x190A55AD},
	{strings.Repeat("\xff", 32), 0xFF6CAB0B},
}

// plain does what P2.1 says, word by word.
func plain(b []byte) uint32 {
	s := uint32(0xFFFFFFFF)
	for _, c := range b {
		s ^= uint32(c)
		for range 8 {
			out := s % 2
			s /= 2
			if out == 1 {
				s ^= 0xEDB88320
			}
		}
	}
	return s ^ 0xFFFFFFFF
}

// mixed makes n bytes of all kinds, the same each time.
func mixed(n int) []byte {
	b := make([]byte, n)
	x := uint32(1)
	for i := range b {
		x = x*1664525 + 1013904223
		b[i] = byte(x >> 24)
	}
	return b
}

func check(t *testing.T, b []byte) {
	t.Helper()
	if got, want := crc.Sum(b), plain(b); got != want {
		t.Fatalf("Sum of %d bytes, %.32x..: %08x, want %08x", len(b), b, got, want)
	}
}

func TestKnown(t *testing.T) {
	for _, x := range known {
		if got := crc.Sum([]byte(x.b)); got != x.want {
			t.Errorf("Sum(%q) = %08x, want %08x", x.b, got, x.want)
		}
	}
}

func TestNoBytes(t *testing.T) {
	for _, b := range [][]byte{nil, {}, make([]byte, 0, 9), []byte("abc")[3:]} {
		if got := crc.Sum(b); got != 0 {
			t.Errorf("Sum of no bytes = %08x", got)
		}
	}
}

func TestOneByteAndTwo(t *testing.T) {
	for i := range 1 << 8 {
		check(t, []byte{byte(i)})
	}
	for i := range 1 << 16 {
		check(t, []byte{byte(i), byte(i >> 8)})
	}
}

func TestEachLength(t *testing.T) {
	b := mixed(600)
	for n := range len(b) {
		check(t, b[:n])
		check(t, b[n:])
		check(t, make([]byte, n))
		check(t, bytes.Repeat([]byte{0xff}, n))
	}
}

func TestManyBytes(t *testing.T) {
	for _, n := range []int{60000, 60006, 1<<16 - 1, 1 << 16, 1<<16 + 1, 1<<22 + 3} {
		b := mixed(n)
		check(t, b)
		if got, want := crc.Sum(b), crc32.ChecksumIEEE(b); got != want {
			t.Errorf("Sum of %d bytes: %08x, the library's %08x", n, got, want)
		}
		check(t, make([]byte, n))
	}
}

// TestTurned: a bit that is turned is told, and so are bytes that changed places, were lost, or came on top.
func TestTurned(t *testing.T) {
	b := mixed(100)
	was := crc.Sum(b)
	for i := range 8 * len(b) {
		b[i/8] ^= 1 << (i % 8)
		if crc.Sum(b) == was {
			t.Errorf("bit %d turned: not told", i)
		}
		b[i/8] ^= 1 << (i % 8)
	}
	for i := range len(b) - 1 {
		c := slices.Clone(b)
		c[i], c[i+1] = c[i+1], c[i]
		if c[i] != c[i+1] && crc.Sum(c) == was {
			t.Errorf("bytes %d and %d changed: not told", i, i+1)
		}
	}
	for n := range 8 {
		if crc.Sum(make([]byte, n)) == crc.Sum(make([]byte, n+1)) {
			t.Errorf("%d zeros: one more not told", n)
		}
	}
}

// TestLeftAlone: what is handed in stays as it was, what stands around it does not count, and a second call tells the same.
func TestLeftAlone(t *testing.T) {
	room := mixed(200)
	was := slices.Clone(room)
	b := room[50:100]
	want := plain(bytes.Clone(b))
	for range 3 {
		if got := crc.Sum(b); got != want {
			t.Errorf("Sum = %08x, want %08x", got, want)
		}
	}
	if !bytes.Equal(room, was) {
		t.Error("changed what was handed in, or what stands around it")
	}
}

func FuzzSum(f *testing.F) {
	for _, x := range known {
		f.Add([]byte(x.b))
	}
	f.Fuzz(func(t *testing.T, b []byte) {
		if got, want := crc.Sum(b), crc32.ChecksumIEEE(b); got != want {
			t.Fatalf("Sum(%x) = %08x, want %08x", b, got, want)
		}
	})
}

func BenchmarkSum(b *testing.B) {
	for _, n := range []int{0, 60, 60000} {
		load := mixed(n)
		b.Run(map[int]string{0: "none", 60: "short", 60000: "long"}[n], func(b *testing.B) {
			b.SetBytes(int64(n))
			for b.Loop() {
				crc.Sum(load)
			}
		})
	}
}
