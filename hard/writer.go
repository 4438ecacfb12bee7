package hard

import "diwan/num"

// below stands ahead of what is written of a number below 0: no Put of num begins so.
const below = "\x80\x00"

// writer writes one thing behind the other.
type writer struct {
	b []byte
}

func (w *writer) number(v *int) {
	n := *v
	if n < 0 {
		// Not -n: there may be no such number.
		w.b, n = append(w.b, below...), ^n
	}
	w.b = append(w.b, num.Put(n)...)
}

func (w *writer) flag(yes *bool) {
	v := 0
	if *yes {
		v = 1
	}
	w.number(&v)
}

func (w *writer) text(s *string) {
	w.size(len(*s))
	w.b = append(w.b, *s...)
}

func (w *writer) size(n int) int {
	w.number(&n)
	return n
}

// sum tells a byte that is another one behind any turn of one of b.
func sum(b []byte) byte {
	var s byte
	for _, c := range b {
		s += c
	}
	return s
}
