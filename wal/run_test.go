package wal_test

import (
	"math/rand"
	"slices"
	"strings"
	"testing"

	"diwan/disk"
)

const mostSteps = 200

// run does what the bytes of steps say, to a Wal and to a plain one: of each step the first byte says what, the others how many.
func run(t *testing.T, steps []byte) {
	if len(steps) < 2 || len(steps) > 2+3*mostSteps {
		return
	}
	b := newBoth(t, int(steps[0])*4)
	size := 1 + int(steps[1])%40
	b.open('a', size)
	for steps = steps[2:]; len(steps) >= 3; steps = steps[3:] {
		n, m := int(int8(steps[1])), int(steps[2])
		switch steps[0] % 12 {
		case 0, 1, 2, 3, 4:
			b.append(strings.Repeat(string(rune('a'+m%26)), m%24))
		case 5, 6:
			b.sync()
		case 7:
			b.open('a', size)
		case 8:
			b.crash(n, m%20-1, n%9, m%30, 3, 0, 12)
			b.open('a', size)
		case 9:
			b.crash()
			b.open('a', 1+m%40)
		case 10:
			b.open('b'+byte(m%3), size)
		case 11:
			name := piece('a'+byte(m%2), 1+m%5)
			for _, d := range []*disk.Disk{b.d, b.p.d} {
				if n > 64 {
					d.Remove(name)
				} else {
					d.Append(name, steps[:m%len(steps)])
				}
			}
			b.open('a', size)
		}
	}
}

// TestRuns: the same steps by chance each time.
func TestRuns(t *testing.T) {
	chance := rand.New(rand.NewSource(8))
	for range 500 {
		steps := make([]byte, 2+3*chance.Intn(60))
		for i := range steps {
			steps[i] = byte(chance.Intn(256))
		}
		run(t, steps)
	}
}

func FuzzRun(f *testing.F) {
	f.Add([]byte{100, 10})
	f.Add([]byte{100, 10, 0, 0, 3, 0, 0, 7, 5, 0, 0, 0, 0, 9, 8, 4, 4, 0, 0, 1})
	f.Add([]byte{9, 30, 0, 0, 20, 0, 0, 20, 0, 0, 20, 9, 0, 5, 11, 0, 3, 0, 0, 2})
	f.Fuzz(run)
}

// lasting is a Wal under which the disk crashes, and all records that it may still have: so many of them must last.
type lasting struct {
	*both
	all  []string
	must int
}

func (l *lasting) append(rec string) {
	pieces := l.w.Pieces()
	l.both.append(rec)
	if l.w.Pieces() > pieces {
		l.must = len(l.all)
	}
	l.all = append(l.all, rec)
}

// crash wants some first records, at least those that must last: these go on, and are sure.
func (l *lasting) crash(keep ...int) {
	l.t.Helper()
	l.both.crash(keep...)
	l.open('a', l.p.size)
	n := len(l.recs)
	if n < l.must || n > len(l.all) || !slices.Equal(l.recs, l.all[:n]) {
		l.t.Fatalf("%s: %d records, of %d of which %d must last: %q", l.done, n, len(l.all), l.must, l.recs)
	}
	l.all, l.must = l.all[:n], n
}

// TestLasting: behind a crash there are some first records, at least those ahead of the last Sync.
func TestLasting(t *testing.T) {
	chance := rand.New(rand.NewSource(88))
	for range 200 {
		l := &lasting{both: newBoth(t, 1<<20)}
		l.open('a', 1+chance.Intn(60))
		for i := range chance.Intn(50) {
			switch chance.Intn(6) {
			case 0:
				l.sync()
				l.must = len(l.all)
			case 1:
				var keep []int
				for range l.w.Pieces() {
					keep = append(keep, chance.Intn(30)-2)
				}
				l.crash(keep...)
			default:
				l.append(strings.Repeat(string(rune('a'+i%26)), chance.Intn(20)))
			}
		}
		l.crash()
	}
}
