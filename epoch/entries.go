package epoch

import "diwan/api"

// entries is a log whose Seals are asked for.
type entries []api.Entry

// seals hands on the index of each Seal, one by one.
func (l entries) seals(yield func(int) bool) {
	for k, e := range l {
		if e.Seal && !yield(k+1) {
			return
		}
	}
}

// rising tells the numbers from begin on that are below end. What lies between two Seals is nothing but transactions, so that all its indices are those of a batch.
func rising(begin, end int) []int {
	l := make([]int, 0, end-begin)
	for i := begin; i < end; i++ {
		l = append(l, i)
	}
	return l
}
