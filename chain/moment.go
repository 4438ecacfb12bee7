package chain

import "diwan/api"

// moment is a position as of which one looks.
type moment int

// has tells whether v was there already.
func (m moment) has(v api.Version) bool {
	return v.Pos <= int(m)
}

// last tells the index of the last one of l that is so; -1, if none is.
func last(l []api.Version, so func(api.Version) bool) int {
	k := len(l) - 1
	for k >= 0 && !so(l[k]) {
		k--
	}
	return k
}

// valued tells whether v has a value that may be, or is gone and has none.
func valued(v api.Version) bool {
	if v.Gone {
		return v.Val == ""
	}
	return len(v.Val) <= api.MaxVal
}

// own is l in memory of its own.
func own(l []api.Version) []api.Version {
	return append([]api.Version(nil), l...)
}
