package frame_test

import (
	"bytes"
	"encoding/binary"
	"hash/crc32"
	"slices"
	"strings"
	"testing"

	"diwan/api"
	"diwan/frame"
)

// known: loads whose frames were reckoned elsewhere.
var known = []struct{ load, want string }{
	{"", "\x00\x00\x41\xd9\x12\xff"},
	{"a", "\x00\x01\xdc\xef\xb9\x9da"},
	{"\x00", "\x00\x01\xe6\x5a\xe8\x53\x00"},
	{"\xff", "\x00\x01\xcb\x58\x07\xde\xff"},
	{"abc", "\x00\x03\x1e\xf2\xc0\x23abc"},
	{"\x00\x00", "\x00\x02\x22\xc0\x0b\x72\x00\x00"},
	{"\x00\x00\x41\xd9\x12\xff", "\x00\x06\xf2\xf4\x44\xea\x00\x00\x41\xd9\x12\xff"}, // a frame in a frame
	{"123456789", "\x00\x09\xba\x6f\xb7\xae123456789"},
}

// behind is what may stand behind a frame.
var behind = []string{"", "\x00", "\xff", "\x00\x00\x00\x00\x00\x00", "\x00\x00\x41\xd9\x12\xff", "\x00\x01\xdc\xef\xb9\x9da", "more"}

// edges: how long a load may be, where one byte more changes how its size is written, and at the end.
var edges = []int{0, 1, 2, 5, 6, 7, 254, 255, 256, 257, 511, 512, 1<<15 - 1, 1 << 15, 1<<15 + 1, 59903, 59904, api.MaxFrame - 1, api.MaxFrame}

// tooLong: one more than may be, the most that two bytes say, what they would say of more, and far more.
var tooLong = []int{api.MaxFrame + 1, api.MaxFrame + 2, 60160, 1<<16 - 1, 1 << 16, 1<<16 + 1, 1<<16 + 5, 1<<17 + 3, 1 << 20}

// plain writes load as P3.1 says, word by word, however long it is.
func plain(load []byte) []byte {
	size := binary.BigEndian.AppendUint16(nil, uint16(len(load)))
	sum := crc32.ChecksumIEEE(append(bytes.Clone(size), load...))
	return append(binary.BigEndian.AppendUint32(size, sum), load...)
}

// mixed makes n bytes of all kinds, the same each time.
func mixed(n int) []byte {
	b := make([]byte, n)
	x := uint32(n)
	for i := range b {
		x = x*1664525 + 1013904223
		b[i] = byte(x >> 24)
	}
	return b
}

func short(b []byte) string {
	if len(b) > 40 {
		return string(b[:40]) + ".."
	}
	return string(b)
}

func wantPut(t *testing.T, load []byte) {
	t.Helper()
	if got, ok := frame.Put(load); !ok || !bytes.Equal(got, plain(load)) {
		t.Fatalf("Put of %d bytes, %x: %x, %v", len(load), short(load), short(got), ok)
	}
}

func wantTake(t *testing.T, b, load []byte) {
	t.Helper()
	if got, n, ok := frame.Take(b); !ok || n != len(load)+6 || !bytes.Equal(got, load) {
		t.Fatalf("Take of %d bytes, %x: %x, %d, %v, want a load of %d", len(b), short(b), short(got), n, ok, len(load))
	}
}

func wantNone(t *testing.T, b []byte) {
	t.Helper()
	if load, n, ok := frame.Take(b); load != nil || n != 0 || ok {
		t.Fatalf("Take of %d bytes, %x: %x, %d, %v, want none", len(b), short(b), short(load), n, ok)
	}
	wantAll(t, b)
}

func wantAll(t *testing.T, b []byte, loads ...[]byte) {
	t.Helper()
	want := 0
	for _, l := range loads {
		want += len(l) + 6
	}
	if got, n := frame.All(b); n != want || !slices.EqualFunc(got, loads, bytes.Equal) {
		t.Fatalf("All of %d bytes, %x: %d loads, %d bytes, want %d, %d", len(b), short(b), len(got), n, len(loads), want)
	}
}

func TestKnown(t *testing.T) {
	for _, x := range known {
		if got, ok := frame.Put([]byte(x.load)); string(got) != x.want || !ok {
			t.Errorf("Put(%x) = %x, %v, want %x", x.load, got, ok, x.want)
		}
		for _, more := range behind {
			wantTake(t, []byte(x.want+more), []byte(x.load))
		}
		wantAll(t, []byte(x.want), []byte(x.load))
	}
}

func TestPutOfNothing(t *testing.T) {
	for _, load := range [][]byte{nil, {}, make([]byte, 0, 9), []byte("abc")[3:]} {
		wantPut(t, load)
		if got, _ := frame.Put(load); len(got) != 6 {
			t.Errorf("%d bytes", len(got))
		}
	}
}

func TestEachLength(t *testing.T) {
	lengths := slices.Clone(edges)
	for n := range 600 {
		lengths = append(lengths, n)
	}
	for _, n := range lengths {
		for _, load := range [][]byte{mixed(n), make([]byte, n), bytes.Repeat([]byte{0xff}, n)} {
			wantPut(t, load)
			b := plain(load)
			wantTake(t, b, load)
			wantTake(t, append(b, "more"...), load)
			wantAll(t, append(b, "more"...), load)
		}
	}
}

func TestPutTooLong(t *testing.T) {
	for _, n := range tooLong {
		if got, ok := frame.Put(make([]byte, n)); got != nil || ok {
			t.Errorf("Put of %d bytes: %d bytes, %v", n, len(got), ok)
		}
	}
}

// TestTakeTooLong: all is there and the sum is right, and yet Put would not have written it.
func TestTakeTooLong(t *testing.T) {
	for _, n := range tooLong {
		if n < 1<<16 {
			wantNone(t, plain(mixed(n)))
			wantNone(t, append(plain(mixed(n)), "more"...))
			wantAll(t, slices.Concat(plain([]byte("a")), plain(mixed(n)), plain([]byte("b"))), []byte("a"))
		}
	}
}

func TestTakeOfNoFrame(t *testing.T) {
	wantNone(t, nil)
	for _, s := range []string{
		"",
		"abc",
		"\x00\x00\x00\x00\x00\x00",         // a sum of nothing at all
		"\x00\x00\x00\x00\x00\x00\x00\x00", // zeros as far as one sees
		"\x00\x00\x41\xd9\x12\xfe",         // one beside it
		"\x00\x00\xff\x12\xd9\x41",         // the sum's lowest byte first
		"\x01\x00\xdc\xef\xb9\x9da",        // the size's lowest byte first
		"\x00\x01\xe8\xb7\xbe\x43a",        // the sum of the load alone
		"\x41\xd9\x12\xff\x00\x00",         // the size behind the sum
		"\xff\xff\xff\xff\xff\xff\xff\xff",
		strings.Repeat("\x00", 70000),
		strings.Repeat("\xff", 70000),
	} {
		wantNone(t, []byte(s))
	}
}

func TestCutOff(t *testing.T) {
	for _, x := range known {
		for k := range len(x.want) {
			wantNone(t, []byte(x.want[:k]))
			wantNone(t, []byte(x.want)[:k:k])
		}
	}
	for _, n := range edges {
		b := plain(mixed(n))
		for k := 1; k <= len(b); k += 1 + k*k/4 {
			wantNone(t, b[:len(b)-k])
		}
	}
}

// TestBytesLost: cut at the front, or in the middle, though other bytes come up behind.
func TestBytesLost(t *testing.T) {
	b := append(plain(mixed(100)), mixed(200)...)
	for i := range 106 {
		wantNone(t, slices.Concat(b[:i], b[i+1:]))
		wantNone(t, slices.Concat(b[:i], []byte{b[i] + 1}, b[i:]))
	}
}

func TestTurned(t *testing.T) {
	for _, n := range []int{0, 1, 2, 7, 100, 300} {
		b := append(plain(mixed(n)), mixed(1<<16)...)
		for i := range 8 * (n + 6) {
			b[i/8] ^= 1 << (i % 8)
			wantNone(t, b)
			b[i/8] ^= 1 << (i % 8)
		}
		wantTake(t, b, mixed(n))
	}
	b := plain(mixed(api.MaxFrame))
	for _, i := range []int{0, 1, 2, 3, 4, 5, 6, 7, 30000, api.MaxFrame + 4, api.MaxFrame + 5} {
		for bit := range 8 {
			b[i] ^= 1 << bit
			wantNone(t, b)
			b[i] ^= 1 << bit
		}
	}
}

func TestAll(t *testing.T) {
	wantAll(t, nil)
	wantAll(t, []byte{})
	var loads [][]byte
	var b []byte
	for i, n := range []int{0, 3, 0, 0, 255, 256, api.MaxFrame, 1, api.MaxFrame, 0} {
		loads = append(loads, mixed(n + i)[i:])
		b = append(b, plain(loads[i])...)
		wantAll(t, b, loads...)
		for _, no := range []string{"\x00", "\xff", "more", "\x00\x00\x00\x00\x00\x00", "\x00\x01\xdc\xef\xb9\x9d", "\x00\x00\x41\xd9\x12"} {
			wantAll(t, slices.Concat(b, []byte(no)), loads...)
		}
	}
}

// TestAllCutOff: wherever it is cut, the frames that are whole are told, and where they end.
func TestAllCutOff(t *testing.T) {
	var loads [][]byte
	var b []byte
	for n := range 12 {
		loads = append(loads, mixed(n))
		b = append(b, plain(loads[n])...)
	}
	whole, end := 0, 0
	for k := range len(b) + 1 {
		if whole < len(loads) && k == end+len(loads[whole])+6 {
			whole, end = whole+1, k
		}
		wantAll(t, b[:k], loads[:whole]...)
	}
	if whole != len(loads) {
		t.Errorf("%d frames were whole", whole)
	}
}

// TestAllTurned: what stands behind a frame that was turned is not told, even if it is whole.
func TestAllTurned(t *testing.T) {
	loads := [][]byte{[]byte("one"), nil, []byte("three"), []byte("four")}
	var starts []int
	var b []byte
	for _, l := range loads {
		starts = append(starts, len(b))
		b = append(b, plain(l)...)
	}
	for i := range 8 * len(b) {
		at, _ := slices.BinarySearch(starts, i/8+1)
		b[i/8] ^= 1 << (i % 8)
		wantAll(t, b, loads[:at-1]...)
		b[i/8] ^= 1 << (i % 8)
	}
	wantAll(t, b, loads...)
}

func TestAllOfMany(t *testing.T) {
	const many = 100000
	b := bytes.Repeat(plain(nil), many)
	wantAll(t, append(b, 0), make([][]byte, many)...)
}

// TestWhatIsHandedInStays: and so does the room behind it.
func TestWhatIsHandedInStays(t *testing.T) {
	for _, s := range []string{"", "load", "\x00\x00\x41\xd9\x12\xff", "\x00\x01\xdc\xef\xb9\x9da\x00\x00\x41\xd9\x12\xffmore", "\x00\x01\xdc\xef\xb9\x9ca"} {
		room := []byte("ahead" + s + "spare room")
		b := room[5 : 5+len(s)]
		for range 2 {
			frame.Put(b)
			frame.Take(b)
			frame.All(b)
		}
		if string(room) != "ahead"+s+"spare room" {
			t.Errorf("%q is now %q", s, room)
		}
	}
}

// fill writes over all that a list has, its spare room too.
func fill(b []byte) {
	b = b[:cap(b)]
	for i := range b {
		b[i] = 0xEE
	}
}

func TestPutIsNewMemory(t *testing.T) {
	for _, load := range []string{"", "load", strings.Repeat("x", 1000)} {
		in := []byte(load)
		one, _ := frame.Put(in)
		other, _ := frame.Put(in)
		fill(one)
		if string(in) != load || !bytes.Equal(other, plain(in)) {
			t.Errorf("%d bytes: a frame shares memory", len(load))
		}
		fill(in)
		if !bytes.Equal(other, plain([]byte(load))) {
			t.Errorf("%d bytes: a frame hangs on its load's memory", len(load))
		}
	}
}

func TestTakeIsNewMemory(t *testing.T) {
	for _, load := range []string{"", "load", strings.Repeat("x", 1000)} {
		b := append(plain([]byte(load)), "more"...)
		was := bytes.Clone(b)
		one, _, _ := frame.Take(b)
		other, _, _ := frame.Take(b)
		fill(one)
		if !bytes.Equal(b, was) || string(other) != load {
			t.Errorf("%d bytes: a load shares memory", len(load))
		}
		fill(b)
		if string(other) != load {
			t.Errorf("%d bytes: a load hangs on its frame's memory", len(load))
		}
	}
}

func TestAllIsNewMemory(t *testing.T) {
	want := []string{"", "one", "", strings.Repeat("two", 300), "three", ""}
	var b []byte
	for _, l := range want {
		b = append(b, plain([]byte(l))...)
	}
	was := bytes.Clone(b)
	loads, _ := frame.All(b)
	for i := range loads {
		fill(loads[i])
		for j := i + 1; j < len(loads); j++ {
			if string(loads[j]) != want[j] {
				t.Errorf("load %d shares memory with load %d", j, i)
			}
		}
	}
	if !bytes.Equal(b, was) {
		t.Error("the loads share memory with what was handed in")
	}
	loads, _ = frame.All(b)
	fill(b)
	for i, l := range loads {
		if string(l) != want[i] {
			t.Errorf("load %d hangs on what was handed in", i)
		}
	}
}

func FuzzPut(f *testing.F) {
	for _, x := range known {
		f.Add([]byte(x.load), []byte(x.want))
	}
	f.Fuzz(func(t *testing.T, load, more []byte) {
		if len(load) > api.MaxFrame {
			return
		}
		wantPut(t, load)
		wantTake(t, append(plain(load), more...), load)
	})
}

// FuzzTake: what is taken is what Put would have written, and All is Take after Take.
func FuzzTake(f *testing.F) {
	for _, x := range known {
		for _, more := range behind {
			f.Add([]byte(x.want + more))
		}
	}
	f.Fuzz(func(t *testing.T, b []byte) {
		var loads [][]byte
		rest := b
		for {
			load, n, ok := frame.Take(rest)
			if !ok {
				break
			}
			if len(load) > api.MaxFrame || n > len(rest) || !bytes.Equal(plain(load), rest[:n]) {
				t.Fatalf("Take(%x) = %x, %d", rest, load, n)
			}
			loads, rest = append(loads, load), rest[n:]
		}
		wantNone(t, rest)
		wantAll(t, b, loads...)
	})
}
