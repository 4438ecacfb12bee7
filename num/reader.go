package num

import "diwan/api"

const (
	low     = 0x7f // the bits of a byte that are the number's
	more    = 0x80 // the bit that says that another byte follows
	longest = 9    // 63 bits in sevens: no number that Put takes has more bytes
)

// reader goes through b from the front; at is how many bytes it has read.
type reader struct {
	b  []byte
	at int
}

// number reads a number; no, where Put would not have written these bytes.
func (r *reader) number() (int, bool) {
	v := 0
	for i := range longest {
		if r.at == len(r.b) {
			return 0, false
		}
		c := r.b[r.at]
		r.at++
		v |= int(c&low) << (7 * i)
		if c&more == 0 {
			// A zero at the end of several adds nothing: Put writes fewer bytes.
			return v, c != 0 || i == 0
		}
	}
	return 0, false
}

// text reads a text.
func (r *reader) text() (string, bool) {
	n, ok := r.number()
	if !ok || n > api.MaxText || n > len(r.b)-r.at {
		return "", false
	}
	s := string(r.b[r.at : r.at+n])
	r.at += n
	return s, true
}

// first tells what take reads and how far r has come by it: beside a no all is zero, even if some bytes were read.
func first[T any](r *reader, take func() (T, bool)) (v T, n int, ok bool) {
	got, ok := take()
	if !ok {
		return v, 0, false
	}
	return got, r.at, true
}
