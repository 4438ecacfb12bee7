package txn

import (
	"diwan/api"
	"diwan/num"
)

// reader goes through b from the front; at is how many bytes it has read.
// Once it has failed, all that it reads is zero: so who reads asks for that but once, at the end.
type reader struct {
	b      []byte
	at     int
	failed bool
}

func (r *reader) number() int { return next(r, num.Take) }

func (r *reader) text() string { return next(r, num.TakeText) }

func (r *reader) flag() bool { return next(r, takeFlag) }

func (r *reader) read() api.Read {
	return api.Read{Key: r.text(), Version: r.number(), Val: r.text(), There: r.flag()}
}

func (r *reader) write() api.Write {
	return api.Write{Key: r.text(), Val: r.text(), Gone: r.flag()}
}

func (r *reader) txn() api.Txn {
	return api.Txn{
		Session: r.number(),
		Seq:     r.number(),
		Reads:   takeList(r, api.MaxReads, r.read),
		Writes:  takeList(r, api.MaxWrites, r.write),
	}
}

// next reads what take takes of what r has ahead of it.
func next[T any](r *reader, take func([]byte) (T, int, bool)) (v T) {
	if r.failed {
		return v
	}
	v, n, ok := take(r.b[r.at:])
	r.at += n
	r.failed = !ok
	return v
}

// takeList reads how many there are, and each by one.
func takeList[T any](r *reader, most int, one func() T) []T {
	n := r.number()
	// No list that Put takes is longer, and a number that was turned may be as great as can be.
	if n > most {
		r.failed = true
		return nil
	}
	var l []T
	for range n {
		l = append(l, one())
	}
	return l
}

// takeFlag tells the yes or no that b begins with.
func takeFlag(b []byte) (yes bool, n int, ok bool) {
	if len(b) == 0 || b[0] > 1 {
		return false, 0, false
	}
	return b[0] == 1, 1, true
}
