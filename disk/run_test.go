package disk_test

import (
	"math/rand"
	"testing"
)

// runNames are few, so that steps meet; the last ones may not be.
var runNames = []string{"a", "b", "B", "ab", "!", "~~~~~~~~", "k1", "k10", "k9", "", "123456789", "a b"}

const mostSteps = 200

// run does what the bytes of steps say, to a disk and to a plain one: of each step the first byte says what, the second to which file, the third how many.
func run(t *testing.T, steps []byte) {
	if len(steps) == 0 || len(steps) > 1+3*mostSteps {
		return
	}
	b := newBoth(t, int(int8(steps[0])))
	for steps = steps[1:]; len(steps) >= 3; steps = steps[3:] {
		name, n := runNames[int(steps[1])%len(runNames)], int(int8(steps[2]))
		switch steps[0] % 11 {
		case 0, 1, 2, 3:
			b.append(name, "0123456789abcdefghijklmnopqrstuvwxyz"[:steps[2]%20])
		case 4, 5:
			b.sync(name)
		case 6:
			b.cut(name, n%24)
		case 7:
			b.remove(name)
		case 8:
			b.crash()
		case 9:
			b.crash(n%8, int(steps[1])%5, n%3, 1, 0, 2)
		case 10:
			b.move()
		}
	}
}

// TestRuns: the same steps by chance each time.
func TestRuns(t *testing.T) {
	chance := rand.New(rand.NewSource(7))
	for range 400 {
		steps := make([]byte, 1+3*chance.Intn(60))
		for i := range steps {
			steps[i] = byte(chance.Intn(256))
		}
		steps[0] &= 127
		run(t, steps)
	}
}

func FuzzRun(f *testing.F) {
	f.Add([]byte{})
	f.Add([]byte{100, 0, 0, 5, 4, 0, 0, 0, 0, 7, 8, 0, 0})
	f.Add([]byte{20, 0, 0, 5, 0, 1, 15, 9, 0, 2, 6, 0, 3, 7, 1, 0, 10, 0, 0, 0, 2, 1})
	f.Fuzz(run)
}
