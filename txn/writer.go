package txn

import (
	"diwan/api"
	"diwan/num"
)

// writer writes one thing behind the other.
type writer struct {
	b []byte
}

func (w *writer) number(v int) {
	w.b = append(w.b, num.Put(v)...)
}

func (w *writer) text(s string) {
	w.b = append(w.b, num.PutText(s)...)
}

func (w *writer) flag(yes bool) {
	c := byte(0)
	if yes {
		c = 1
	}
	w.b = append(w.b, c)
}

func (w *writer) read(r api.Read) {
	w.text(r.Key)
	w.number(r.Version)
	w.text(r.Val)
	w.flag(r.There)
}

func (w *writer) write(x api.Write) {
	w.text(x.Key)
	w.text(x.Val)
	w.flag(x.Gone)
}

func (w *writer) txn(t api.Txn) {
	w.number(t.Session)
	w.number(t.Seq)
	putList(w, t.Reads, w.read)
	putList(w, t.Writes, w.write)
}

// putList writes how many l are, and each by one.
func putList[T any](w *writer, l []T, one func(T)) {
	w.number(len(l))
	for _, x := range l {
		one(x)
	}
}
