package merge

// head is a batch of a log: how many stand ahead of it there, and what it and those behind it have.
type head struct {
	part, batch int
	rest        [][]int
}

// ahead tells whether h comes ahead of other in the order.
func (h head) ahead(other head) bool {
	if h.batch == other.batch {
		return h.part < other.part
	}
	return h.batch < other.batch
}

// last tells whether no batch of its log is behind h.
func (h head) last() bool {
	return len(h.rest) == 1
}

// following tells the batch of its log that is next behind h, which is not the last one.
func (h head) following() head {
	return head{part: h.part, batch: h.batch + 1, rest: h.rest[1:]}
}

// heads is a heap, as container/heap wants it, with the batch at its front that comes ahead of all others.
type heads []head

func (h heads) Len() int           { return len(h) }
func (h heads) Less(i, j int) bool { return h[i].ahead(h[j]) }
func (h heads) Swap(i, j int)      { h[i], h[j] = h[j], h[i] }

func (h *heads) Push(x any) {
	*h = append(*h, x.(head))
}

func (h *heads) Pop() any {
	last := len(*h) - 1
	x := (*h)[last]
	*h = (*h)[:last]
	return x
}
