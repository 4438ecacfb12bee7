package disk_test

import (
	"bytes"
	"math"
	"slices"
	"strings"
	"testing"
	"unsafe"

	"diwan/api"
	"diwan/disk"
)

// TestWhatIsHandedInStays: neither changed nor kept, with the room behind it.
func TestWhatIsHandedInStays(t *testing.T) {
	room := []byte("ahead12345behind")
	was := bytes.Clone(room)
	b := newBoth(t, 100)
	for range 3 {
		b.d.Append("a", room[5:10])
		b.p.append("a", room[5:10])
		b.d.Append("b", room[5:10])
		b.p.append("b", room[5:10])
		b.d.Append("a", []byte("xy"))
		b.p.append("a", []byte("xy"))
		if !bytes.Equal(room, was) {
			t.Fatalf("%q is now %q", was, room)
		}
	}
	wantLike(t, "appended", b.d, b.p)
	for i := range room {
		room[i] = '#'
	}
	wantLike(t, "what was appended is turned", b.d, b.p)

	keep := []int{77, 1, -1, 2, 77}
	kept := slices.Clone(keep)
	b.d.Crash(keep[1:4])
	b.p.crash(kept[1:4])
	wantLike(t, "crashed", b.d, b.p)
	if !slices.Equal(keep, kept) {
		t.Errorf("%d is now %d", kept, keep)
	}
}

// TestNamesAreNotKept: a name that is a piece of a long text would hold on to all of it.
func TestNamesAreNotKept(t *testing.T) {
	name := strings.Repeat("x", 1<<10)[1:5]
	d := disk.New(10)
	d.Append(name, []byte("1"))
	for _, l := range [][]string{d.List(), d.Copy().List()} {
		if len(l) != 1 || l[0] != name || unsafe.StringData(l[0]) == unsafe.StringData(name) {
			t.Errorf("List = %q, or it shares memory with what was handed in", l)
		}
	}
}

// TestWhatIsToldIsNew: who writes to it, or to the room behind it, changes nothing.
func TestWhatIsToldIsNew(t *testing.T) {
	for _, step := range []func(b *both){
		func(b *both) {},
		func(b *both) { b.append("a", "more") },
		func(b *both) { b.sync("a") },
		func(b *both) { b.cut("a", 3) },
		func(b *both) { b.cut("a", 0) },
		func(b *both) { b.crash(1) },
		func(b *both) { b.crash() },
		func(b *both) { b.move() },
	} {
		b := newBoth(t, 100)
		b.append("a", "1234")
		b.append("a", "56789")
		b.append("b", "xyz")
		step(b)
		one, _ := b.d.Read("a")
		other, _ := b.d.Read("a")
		l, m := b.d.List(), b.d.List()
		was := bytes.Clone(other)
		turn(one)
		for i := range l[:cap(l)] {
			l[:cap(l)][i] = "#"
		}
		wantLike(t, b.done+": what was told is turned", b.d, b.p)
		if !bytes.Equal(other, was) || !slices.Equal(m, b.p.list()) {
			t.Errorf("%s: two answers share memory: %q, %q", b.done, other, m)
		}
		// what was told stays as it is, whatever comes
		b.append("a", "later")
		b.append("A", "first")
		b.cut("a", 0)
		b.append("a", "%%%%%%%%%%%%%%%%")
		b.remove("b")
		if !bytes.Equal(other, was) || !slices.Equal(m, []string{"a", "b"}) {
			t.Errorf("%s: what was told is now %q, %q", b.done, other, m)
		}
	}
}

// turn turns all of b, and the room behind it.
func turn(b []byte) {
	b = b[:cap(b)]
	for i := range b {
		b[i] ^= 0xff
	}
}

func TestNil(t *testing.T) {
	var d *disk.Disk
	for _, name := range []string{"a", "12345678", "", " ", "123456789"} {
		for _, b := range [][]byte{nil, {}, []byte("x")} {
			if got := d.Append(name, b); got != api.EArg {
				t.Errorf("Append: %d", got)
			}
		}
		if got := d.Sync(name); got != api.EArg {
			t.Errorf("Sync: %d", got)
		}
		if b, ok := d.Read(name); ok || len(b) != 0 {
			t.Errorf("Read: %q, %v", b, ok)
		}
		for _, n := range []int{math.MinInt, -1, 0, 1, math.MaxInt} {
			if got := d.Cut(name, n); got != api.EArg {
				t.Errorf("Cut: %d", got)
			}
		}
		if got := d.Remove(name); got != api.EArg {
			t.Errorf("Remove: %d", got)
		}
	}
	if l := d.List(); len(l) != 0 {
		t.Errorf("List: %q", l)
	}
	if n := d.Used(); n != 0 {
		t.Errorf("Used: %d", n)
	}
	d.Crash(nil)
	d.Crash([]int{1, 2})
	if c := d.Copy(); c != nil {
		t.Errorf("Copy: %v", c)
	}
}

// TestZero: a disk that New did not make is one of no room.
func TestZero(t *testing.T) {
	b := &both{t: t, d: &disk.Disk{}, p: newPlain(0), done: "a zero Disk"}
	wantLike(t, b.done, b.d, b.p)
	b.crash(1)
	b.sync("a")
	b.cut("a", 0)
	b.remove("a")
	b.append("a", "x")
	b.append("a", "")
	b.append("a", "x")
	b.move()
	b.cut("a", 0)
	b.remove("a")
}
