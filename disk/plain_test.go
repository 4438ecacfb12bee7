package disk_test

import (
	"bytes"
	"fmt"
	"slices"
	"testing"

	"diwan/api"
	"diwan/disk"
)

// cell is a byte of a file, by P7.1's words.
type cell struct {
	c    byte
	sure bool
}

// plainFile is a file, by P7.1's words.
type plainFile struct {
	name  string
	cells []cell
}

// plain is a disk by P7.1's words, done one by one: its files stand in the order in which they began.
type plain struct {
	room  int
	files []plainFile
}

func newPlain(room int) *plain {
	if room < 0 {
		room = 0
	}
	return &plain{room: room}
}

func plainName(s string) bool {
	seen := 0
	for i := 0; i < len(s); i++ {
		if int(s[i]) >= 33 && int(s[i]) <= 126 {
			seen++
		}
	}
	return seen == len(s) && seen >= 1 && seen <= 8
}

// at tells where the file of that name is, or -1.
func (p *plain) at(name string) int {
	for i := range p.files {
		if p.files[i].name == name {
			return i
		}
	}
	return -1
}

func (p *plain) used() int {
	n := 0
	for _, f := range p.files {
		n += len(f.cells)
	}
	return n
}

func (p *plain) append(name string, b []byte) api.Errno {
	if !plainName(name) {
		return api.EArg
	}
	if p.used()+len(b) > p.room {
		return api.EFull
	}
	if p.at(name) < 0 {
		p.files = append(p.files, plainFile{name: name})
	}
	f := &p.files[p.at(name)]
	for _, c := range b {
		f.cells = append(f.cells, cell{c, false})
	}
	return api.OK
}

func (p *plain) sync(name string) api.Errno {
	i := p.at(name)
	if i < 0 {
		return api.ENone
	}
	for k := range p.files[i].cells {
		p.files[i].cells[k].sure = true
	}
	return api.OK
}

func (p *plain) read(name string) ([]byte, bool) {
	i := p.at(name)
	if i < 0 {
		return nil, false
	}
	var b []byte
	for _, x := range p.files[i].cells {
		b = append(b, x.c)
	}
	return b, true
}

func (p *plain) cut(name string, n int) api.Errno {
	i := p.at(name)
	if i < 0 {
		return api.ENone
	}
	if n < 0 || n > len(p.files[i].cells) {
		return api.EArg
	}
	p.files[i].cells = append([]cell{}, p.files[i].cells[:n]...)
	return p.sync(name)
}

func (p *plain) remove(name string) api.Errno {
	i := p.at(name)
	if i < 0 {
		return api.ENone
	}
	p.files = append(p.files[:i:i], p.files[i+1:]...)
	return api.OK
}

func (p *plain) list() []string {
	var l []string
	for _, f := range p.files {
		l = append(l, f.name)
	}
	slices.Sort(l)
	return l
}

func (p *plain) crash(keep []int) {
	for i, name := range p.list() {
		f := &p.files[p.at(name)]
		var left []cell
		others := 0
		for _, x := range f.cells {
			if x.sure {
				left = append(left, x)
			} else if i < len(keep) && others < keep[i] {
				left = append(left, cell{x.c, true})
				others++
			}
		}
		f.cells = left
	}
}

func (p *plain) copy() *plain {
	c := &plain{room: p.room}
	for _, f := range p.files {
		c.files = append(c.files, plainFile{f.name, slices.Clone(f.cells)})
	}
	return c
}

// wantIs wants d to tell what p tells.
func wantIs(t *testing.T, what string, d *disk.Disk, p *plain) {
	t.Helper()
	if got, want := d.List(), p.list(); !slices.Equal(got, want) {
		t.Fatalf("%s: List = %q, want %q", what, got, want)
	}
	if got, want := d.Used(), p.used(); got != want {
		t.Fatalf("%s: Used = %d, want %d", what, got, want)
	}
	for _, name := range p.list() {
		want, _ := p.read(name)
		if got, ok := d.Read(name); !ok || !bytes.Equal(got, want) {
			t.Fatalf("%s: Read(%q) = %q, %v, want %q", what, name, got, ok, want)
		}
	}
}

// wantLike wants d to tell what p tells, now and behind a crash that loses all that may be lost, and to have as much room.
func wantLike(t *testing.T, what string, d *disk.Disk, p *plain) {
	t.Helper()
	wantIs(t, what, d, p)
	c, q := d.Copy(), p.copy()
	wantIs(t, what+", copied", c, q)
	c.Crash(nil)
	q.crash(nil)
	wantIs(t, what+", copied, crashed", c, q)
	wantRoom(t, what, d, p)
	wantIs(t, what+", looked at", d, p)
}

// wantRoom wants d to have room for as much as p, and for no byte more.
func wantRoom(t *testing.T, what string, d *disk.Disk, p *plain) {
	t.Helper()
	rest := p.room - p.used()
	if rest > 1<<20 {
		return
	}
	if got := d.Copy().Append("room", make([]byte, rest+1)); got != api.EFull {
		t.Fatalf("%s: Append of %d bytes to %d of room: %d, want EFull", what, rest+1, rest, got)
	}
	if got := d.Copy().Append("room", make([]byte, rest)); got != api.OK {
		t.Fatalf("%s: Append of %d bytes to as much room: %d", what, rest, got)
	}
}

// both are a disk and a plain one to which the same is done.
type both struct {
	t    *testing.T
	d    *disk.Disk
	p    *plain
	done string
}

func newBoth(t *testing.T, room int) *both {
	return &both{t: t, d: disk.New(room), p: newPlain(room), done: fmt.Sprintf("New(%d)", room)}
}

// told wants that got is what P7.1 says, and that the disk is, too.
func (b *both) told(got, want api.Errno, format string, of ...any) {
	b.t.Helper()
	b.done += " " + fmt.Sprintf(format, of...)
	if len(b.done) > 1000 {
		b.done = ".." + b.done[len(b.done)-900:]
	}
	if got != want {
		b.t.Fatalf("%s: %d, want %d", b.done, got, want)
	}
	wantLike(b.t, b.done, b.d, b.p)
}

func (b *both) append(name, load string) {
	b.t.Helper()
	b.told(b.d.Append(name, []byte(load)), b.p.append(name, []byte(load)), "Append(%.20q, %.20q of %d)", name, load, len(load))
}

func (b *both) sync(name string) {
	b.t.Helper()
	b.told(b.d.Sync(name), b.p.sync(name), "Sync(%.20q)", name)
}

func (b *both) cut(name string, n int) {
	b.t.Helper()
	b.told(b.d.Cut(name, n), b.p.cut(name, n), "Cut(%.20q, %d)", name, n)
}

func (b *both) remove(name string) {
	b.t.Helper()
	b.told(b.d.Remove(name), b.p.remove(name), "Remove(%.20q)", name)
}

func (b *both) crash(keep ...int) {
	b.t.Helper()
	b.d.Crash(keep)
	b.p.crash(keep)
	b.told(0, 0, "Crash(%d)", keep)
}

// move goes on with the copies.
func (b *both) move() {
	b.t.Helper()
	b.d, b.p = b.d.Copy(), b.p.copy()
	b.told(0, 0, "Copy")
}
