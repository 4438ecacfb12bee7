package crc

const (
	poly   = 0xEDB88320
	atOnce = 4 // bits that a look into the table drops
)

// sum is a sum on its way: all its bits are turned in the end alone.
type sum uint32

// half drops the lowest bit.
func (s sum) half() sum {
	if s&1 == 0 {
		return s >> 1
	}
	return s>>1 ^ poly
}

// table has, for each of what the lowest bits may be, what dropping them makes of it.
// It is reckoned anew by each call, and most of what is summed is short: so it is small, and a byte is two looks.
type table [1 << atOnce]sum

// reckon fills the table by drop, which drops one bit.
func (t *table) reckon(drop func(sum) sum) {
	for i := range t {
		s := sum(i)
		for range atOnce {
			s = drop(s)
		}
		t[i] = s
	}
}

// few drops as many bits as the table is for.
func (t *table) few(s sum) sum {
	return s>>atOnce ^ t[s%sum(len(t))]
}

// add tells what s is behind the byte c.
func (t *table) add(s sum, c byte) sum {
	return t.few(t.few(s ^ sum(c)))
}

// through tells what s is behind all of b, a byte at a time by next.
func (t *table) through(b []byte, s sum, next func(*table, sum, byte) sum) sum {
	for _, c := range b {
		s = next(t, s, c)
	}
	return s
}
