package store_test

import (
	"testing"

	"diwan/api"
	"diwan/store"
)

// TestNotSeenAhead: what was written behind a position is not seen at it, whatever is written and trimmed.
func TestNotSeenAhead(t *testing.T) {
	s := store.Write(api.Store{}, 1, writesOf("a=x c=x"))
	s = store.Write(s, 2, writesOf("a=y b=y c!"))
	s = store.Write(s, 4, writesOf("a! b=z d=z"))
	s = store.Write(s, 5, writesOf("a=w c=w"))
	for mark := range 7 {
		s = store.Trim(s, mark)
		for pos, want := range []string{"", "a=1x c=1x", "a=2y b=2y", "a=2y b=2y", "b=4z d=4z", "a=5w b=4z c=5w d=4z", "a=5w b=4z c=5w d=4z"} {
			if pos < mark {
				wantSpan(t, s, "", "", pos, nil, api.EOld)
				continue
			}
			wantSpan(t, s, "", "", pos, readsOf(want), api.OK)
		}
	}
}

// TestExample: what Write wrote, Get tells.
func TestExample(t *testing.T) {
	s := store.Write(api.Store{}, 1, []api.Write{{Key: "a", Val: "x"}})
	wantGet(t, s, "a", 1, api.Read{Key: "a", Version: 1, Val: "x", There: true}, api.OK)
	wantGet(t, s, "a", 0, api.Read{Key: "a"}, api.OK)
}

// step is what two bytes say: a write of a key at a position, or a Trim.
func step(a, b byte) (pos int, l []api.Write, trim bool) {
	key := names()[1+int(a)%(len(names())-1)]
	w := api.Write{Key: key, Gone: b%5 == 0}
	if !w.Gone {
		w.Val = "abcdefghijklmnop"[:b%17]
	}
	return int(b) % 40, []api.Write{w}, a%7 == 6
}

// FuzzRun holds all calls to the words of P16.1, behind each step of two bytes.
func FuzzRun(f *testing.F) {
	for _, x := range []string{"", "a1b2", "a1a2a3a4", "zyxwvutsrqponmlk", "\x00\x01\x01\x02\x06\x03\x02\x05\x00\x0a\x0d\x09"} {
		f.Add(x, 0, "a", "")
		f.Add(x, 9, "", "b")
		f.Add(x, -1, "~", "a")
	}
	f.Fuzz(func(t *testing.T, x string, pos int, from, to string) {
		var s, want api.Store
		for k := 0; k+1 < min(len(x), 200); k += 2 {
			at, l, trim := step(x[k], x[k+1])
			if trim {
				s, want = store.Trim(s, at), plainTrim(want, at)
			} else {
				s, want = store.Write(s, at, l), plainWrite(want, at, l)
			}
			if !alike(s, want) {
				t.Fatalf("behind step %d: %v, want %v", k/2, s, want)
			}
			wantMay(t, s, true)
		}
		wantReads(t, s, append(names(), from, to), pos)
		wantReads(t, s, append(names(), from, to), pos%50)
		wantSame(t, s, want, true)
	})
}
