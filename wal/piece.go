package wal

import (
	"strconv"

	"diwan/api"
	"diwan/disk"
	"diwan/frame"
)

const mostPieces = 9999

// names is a letter: the names of its pieces begin so.
type names byte

// piece tells the name of the i-th piece: the letter and four digits.
func (l names) piece(i int) string {
	return string(rune(l)) + strconv.Itoa(mostPieces + 1 + i)[1:]
}

// walk has step go from piece to piece, from the i-th one on, up to the first of which it does not say OK: it tells how many pieces there are ahead of that one, and what step said of it.
func (l names) walk(i int, step func(name string) api.Errno) (int, api.Errno) {
	for ; i <= mostPieces; i++ {
		if why := step(l.piece(i)); why != api.OK {
			return i - 1, why
		}
	}
	return mostPieces, api.ENone
}

// reader goes from piece to piece; recs are the records of those that it has read.
type reader struct {
	d    *disk.Disk
	recs [][]byte
}

// piece reads the piece of that name. If it is not frames to its end, it is cut behind its last frame, and EForm is told.
func (r *reader) piece(name string) api.Errno {
	b, ok := r.d.Read(name)
	if !ok {
		return api.ENone
	}
	loads, n := frame.All(b)
	r.recs = append(r.recs, loads...)
	if n == len(b) {
		return api.OK
	}
	r.d.Cut(name, n)
	return api.EForm
}
