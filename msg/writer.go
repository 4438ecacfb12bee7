package msg

import (
	"diwan/api"
	"diwan/num"
	"diwan/txn"
)

// writer writes one thing behind the other.
type writer struct {
	b []byte
}

func (w *writer) number(v *int) {
	w.b = append(w.b, num.Put(*v)...)
}

func (w *writer) flag(yes *bool) {
	v := 0
	if *yes {
		v = 1
	}
	w.number(&v)
}

func (w *writer) text(s *string) {
	w.b = append(w.b, num.PutText(*s)...)
}

func (w *writer) txn(t *api.Txn) {
	w.b = append(w.b, txn.Put(*t)...)
}

func (w *writer) size(n, _ int) int {
	w.number(&n)
	return n
}
