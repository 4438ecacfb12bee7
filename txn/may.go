package txn

import (
	"diwan/api"
	"diwan/key"
)

// upTo tells whether v is from 1 to most.
func upTo(most, v int) bool {
	return 1 <= v && v <= most
}

// mayAll tells whether l are at most most, their keys rising, and may says yes of each.
func mayAll[T any](l []T, most int, keyOf func(T) string, may func(T) bool) bool {
	if len(l) > most || !key.Rising(keys(l, keyOf)) {
		return false
	}
	for _, x := range l {
		if !may(x) {
			return false
		}
	}
	return true
}

// mayRead tells whether r may be, whatever its key is.
func mayRead(r api.Read) bool {
	if !r.There {
		// Above 0 it is a key that was written and is gone again.
		return r.Version >= 0 && r.Val == ""
	}
	return r.Version > 0 && len(r.Val) <= api.MaxVal
}

// mayWrite tells whether w may be, whatever its key is.
func mayWrite(w api.Write) bool {
	if w.Gone {
		return w.Val == ""
	}
	return len(w.Val) <= api.MaxVal
}

// keys tells the key of each of l.
func keys[T any](l []T, keyOf func(T) string) []string {
	var all []string
	for _, x := range l {
		all = append(all, keyOf(x))
	}
	return all
}

func readKey(r api.Read) string { return r.Key }

func writeKey(w api.Write) string { return w.Key }
