package ballot

// lowestFirst is a heap, as container/heap wants it, with the lowest number at its front.
type lowestFirst []int

func (h lowestFirst) Len() int           { return len(h) }
func (h lowestFirst) Less(i, j int) bool { return h[i] < h[j] }
func (h lowestFirst) Swap(i, j int)      { h[i], h[j] = h[j], h[i] }

func (h *lowestFirst) Push(x any) {
	*h = append(*h, x.(int))
}

func (h *lowestFirst) Pop() any {
	last := len(*h) - 1
	x := (*h)[last]
	*h = (*h)[:last]
	return x
}
