package frame

import (
	"slices"

	"diwan/api"
	"diwan/crc"
)

const (
	sizeBytes = 2
	headBytes = sizeBytes + 4 // the size, and the sum behind it
)

// reader goes through b from the front; at is how many bytes it has read.
type reader struct {
	b  []byte
	at int
}

// frame reads a frame and tells its load; no, where Put would not have written these bytes: then nothing is read.
func (r *reader) frame() ([]byte, bool) {
	rest := r.b[r.at:]
	if len(rest) < headBytes {
		return nil, false
	}
	size, sum, behind := rest[:sizeBytes], rest[sizeBytes:headBytes], rest[headBytes:]
	n := int(number(size))
	// Two bytes say more than Put takes.
	if n > api.MaxFrame || n > len(behind) {
		return nil, false
	}
	// What was summed has the load at its end: this copy is the answer, too.
	summed := slices.Concat(size, behind[:n])
	if crc.Sum(summed) != number(sum) {
		return nil, false
	}
	r.at += headBytes + n
	return summed[sizeBytes:], true
}

// number tells the number whose bytes, the highest first, are b.
func number(b []byte) uint32 {
	v := uint32(0)
	for _, c := range b {
		v = v<<8 | uint32(c)
	}
	return v
}

// many tells what take reads, time after time, up to its first no.
func many[T any](take func() (T, bool)) []T {
	var all []T
	for {
		got, ok := take()
		if !ok {
			return all
		}
		all = append(all, got)
	}
}
