package disk

import (
	"bytes"

	"diwan/api"
)

// file is bytes; the first ones, so many as sure says, outlast a crash.
type file struct {
	b    []byte
	sure int
}

// leave leaves f's first n bytes, and makes them sure.
func (f *file) leave(n int) {
	if n < len(f.b) {
		// A shorter slice of the same bytes would keep those that are gone.
		f.b = bytes.Clone(f.b[:n])
	}
	f.sure = n
}

func (f *file) sync() api.Errno {
	f.leave(len(f.b))
	return api.OK
}

// load is what is to be added to a file.
type load []byte

func (l load) add(f *file) api.Errno {
	f.b = append(f.b, l...)
	return api.OK
}

// length is how many bytes a file is to have.
type length int

func (n length) cut(f *file) api.Errno {
	if n < 0 || int(n) > len(f.b) {
		return api.EArg
	}
	f.leave(int(n))
	return api.OK
}

// crash goes from file to file; keep says how many bytes that are not sure stay of each that is still ahead.
type crash struct {
	keep []int
}

func (c *crash) hit(f *file) api.Errno {
	stay := min(max(c.next(), 0), len(f.b)-f.sure)
	f.leave(f.sure + stay)
	return api.OK
}

// next tells what keep says of the file that is hit now.
func (c *crash) next() int {
	if len(c.keep) == 0 {
		return 0
	}
	n := c.keep[0]
	c.keep = c.keep[1:]
	return n
}
