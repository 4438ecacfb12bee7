package msg

import (
	"diwan/api"
	"diwan/num"
	"diwan/txn"
)

// reader reads one thing behind the other of b, which is what it has ahead of it: what it can't read is zero.
// So it reads what no writer wrote, too: who has read writes it down again, and sees.
type reader struct {
	b []byte
}

func (r *reader) number(v *int) { *v = next(r, num.Take) }

func (r *reader) flag(yes *bool) { *yes = next(r, num.Take) == 1 }

func (r *reader) text(s *string) { *s = next(r, num.TakeText) }

func (r *reader) txn(t *api.Txn) { *t = next(r, txn.Take) }

func (r *reader) size(_, most int) int {
	n := next(r, num.Take)
	// A number that was turned may be as great as can be: no room is taken for that many.
	if n > most {
		return 0
	}
	return n
}

// next reads what take takes of what r has ahead of it.
func next[T any](r *reader, take func([]byte) (T, int, bool)) T {
	v, n, _ := take(r.b)
	r.b = r.b[n:]
	return v
}
