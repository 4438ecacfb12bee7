package hard

import "diwan/api"

// hand goes through a record, one thing behind the other: it writes, or reads.
type hand interface {
	number(v *int)
	flag(yes *bool)
	text(s *string)
	// size tells how many a list of n has from now on.
	size(n int) int
}

func entry(h hand, e *api.Entry) {
	h.number(&e.Term)
	h.flag(&e.Seal)
	transaction(h, &e.T)
}

// transaction hands t over as txn.Put does, but any t: a member's log may have what txn has no bytes for.
func transaction(h hand, t *api.Txn) {
	h.number(&t.Session)
	h.number(&t.Seq)
	list(h, &t.Reads, read)
	list(h, &t.Writes, write)
}

func read(h hand, r *api.Read) {
	h.text(&r.Key)
	h.number(&r.Version)
	h.text(&r.Val)
	h.flag(&r.There)
}

func write(h hand, w *api.Write) {
	h.text(&w.Key)
	h.text(&w.Val)
	h.flag(&w.Gone)
}

// list hands over how many l are, and each by one.
func list[T any](h hand, l *[]T, one func(hand, *T)) {
	if n := h.size(len(*l)); n != len(*l) {
		*l = make([]T, n)
	}
	for i := range *l {
		one(h, &(*l)[i])
	}
}
