package hard

import (
	"bytes"

	"diwan/num"
)

// reader reads one thing behind the other of b, which is what it has ahead of it: what it can't read is zero.
// So it reads what no writer wrote, too: who has read writes it down again, and sees.
type reader struct {
	b []byte
}

func (r *reader) number(v *int) {
	rest, isBelow := bytes.CutPrefix(r.b, []byte(below))
	n, size, _ := num.Take(rest)
	if isBelow {
		n = ^n
	}
	*v, r.b = n, rest[size:]
}

func (r *reader) flag(yes *bool) {
	var v int
	r.number(&v)
	*yes = v == 1
}

func (r *reader) text(s *string) {
	n := r.size(0)
	*s, r.b = string(r.b[:n]), r.b[n:]
}

func (r *reader) size(int) int {
	var n int
	r.number(&n)
	// A number that was turned may be as great as can be: each of so many has a byte at least.
	if n < 0 || n > len(r.b) {
		return 0
	}
	return n
}
