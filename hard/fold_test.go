package hard_test

import (
	"bytes"
	"fmt"
	"math"
	"slices"
	"testing"

	"diwan/api"
	"diwan/hard"
	"diwan/raft"
)

// TestFoldOfNone: members as New, so many as there are parts.
func TestFoldOfNone(t *testing.T) {
	for _, parts := range []int{math.MinInt, -2, -1, 0, 1, 2, 3, 4, 100} {
		for _, recs := range [][][]byte{nil, {}} {
			got, ok := hard.Fold(recs, parts, me, nodes, wait)
			if !ok || len(got) != max(parts, 0) {
				t.Errorf("Fold of none, %d parts: %d, %v", parts, len(got), ok)
			}
			for i, r := range got {
				if !alike(r, fresh(me, nodes, wait)) {
					t.Errorf("member %d of %d is %s", i, parts, briefRaft(r))
				}
			}
		}
	}
}

// TestFoldOfNoneIsNew: whoever they are, and however long they wait; where there is no record, nothing is asked.
func TestFoldOfNoneIsNew(t *testing.T) {
	numbers := []int{math.MinInt, -1, 0, 1, 2, 3, 5, 6, 60, 61, math.MaxInt}
	for _, me := range numbers {
		for _, nodes := range numbers {
			for _, wait := range numbers {
				want := []api.Raft{raft.New(me, nodes, wait), raft.New(me, nodes, wait)}
				if got, ok := hard.Fold(nil, 2, me, nodes, wait); !ok || !alikeAll(got, want) {
					t.Errorf("Fold of none, of %d, %d, %d: %v,%s", me, nodes, wait, ok, briefAll(got))
				}
			}
		}
	}
}

// TestFoldOfWhom: me, nodes and wait that may be, and that may not.
func TestFoldOfWhom(t *testing.T) {
	numbers := []int{math.MinInt, -1, 0, 1, 2, 3, 4, 5, 6, 59, 60, 61, math.MaxInt}
	recs := hard.Diff(1, of(0, 0, nil), of(2, 1, logOf("1S 2a")))
	for _, me := range numbers {
		for _, nodes := range numbers {
			for _, wait := range numbers {
				got, ok := hard.Fold(recs, 2, me, nodes, wait)
				what := fmt.Sprintf("Fold of %d, %d, %d", me, nodes, wait)
				if may := 1 <= nodes && nodes <= 5 && 1 <= me && me <= nodes && 1 <= wait && wait <= 60; !may {
					if ok || got != nil {
						t.Errorf("%s: %v,%s", what, ok, briefAll(got))
					}
					continue
				}
				want := []api.Raft{fresh(me, nodes, wait), fresh(me, nodes, wait)}
				want[1].Term, want[1].Vote, want[1].Log = 2, 1, logOf("1S 2a")
				if !ok || !alikeAll(got, want) {
					t.Errorf("%s: %v,%s", what, ok, briefAll(got))
				}
			}
		}
	}
}

// TestFoldOfOtherLogs: of a log below 0, and of one that there is not.
func TestFoldOfOtherLogs(t *testing.T) {
	r := of(2, 1, logOf("1S 2a"))
	last := of(3, 1, logOf("1S"))
	for _, part := range []int{math.MinInt, math.MinInt + 1, -1 << 32, -129, -128, -3, -2, -1, 0, 1, 2, 3, 4, 127, 128, 255, 256, 1 << 32, math.MaxInt} {
		for _, recs := range [][][]byte{to(part, r), to(part, of(9, 0, nil)), hard.Diff(part, r, of(2, 1, logOf("1S"))), hard.Diff(part, r, last)} {
			if len(recs) == 0 {
				t.Fatalf("part %d: no records", part)
			}
			for parts := range 5 {
				var ahead [][]byte
				want := make([]api.Raft, parts)
				for i := range parts {
					ahead = append(ahead, to(i, r)...)
					want[i] = r
				}
				what := fmt.Sprintf("log %d of %d", part, parts)
				wantFold(t, what+", ahead", ahead, want...)
				if part < 0 || part >= parts {
					wantNo(t, what, join(ahead, recs), parts)
					wantNo(t, what+", ahead of others", join(recs[:1], ahead), parts)
					continue
				}
				if got, ok := hard.Fold(join(ahead, recs[:1]), parts, me, nodes, wait); !ok || len(got) != parts {
					t.Errorf("%s: %v", what, ok)
				}
			}
		}
	}
}

// TestFoldOfSeveral: the records of several logs mixed, those of each log in their order.
func TestFoldOfSeveral(t *testing.T) {
	runs := [][]api.Raft{
		{of(1, 2, nil), of(1, 2, logOf("1S 1a 1b")), of(3, 0, logOf("1S 1a")), of(3, 1, logOf("1S 1a 3S"))},
		{of(2, 0, logOf("1x 2y")), of(2, 3, logOf("1x")), of(7, 3, nil), of(8, 3, longLog(20, 8))},
		{of(1, 0, logOf("1S")), of(1, 0, nil), of(1, 0, logOf("1a")), of(1, 0, logOf("1a 1b 1c"))},
		{of(0, 3, nil), of(0, 3, nil), of(0, 3, nil), of(0, 4, nil)},
	}
	queues := func() [][][]byte {
		all := make([][][]byte, len(runs))
		for part, run := range runs {
			was := fresh(me, nodes, wait)
			for _, r := range run {
				all[part] = append(all[part], hard.Diff(part, was, r)...)
				was = r
			}
		}
		return all
	}
	var want []api.Raft
	for _, run := range runs {
		want = append(want, run[len(run)-1])
	}
	wantFold(t, "one log behind the other", join(queues()...), want...)
	all := queues()
	slices.Reverse(all)
	wantFold(t, "the last log first", join(all...), want...)
	for seed := range 200 {
		c := chance(uint64(seed))
		var mixed [][]byte
		for all := queues(); len(all) > 0; {
			k := c.IntN(len(all))
			mixed = append(mixed, all[k][0])
			if all[k] = all[k][1:]; len(all[k]) == 0 {
				all = slices.Delete(all, k, k+1)
			}
		}
		wantFold(t, fmt.Sprintf("mixed, %d", seed), mixed, want...)
	}
}

// likely are records of each kind, with what is ahead of each.
func likely() []struct {
	what       string
	ahead, rec [][]byte
	then       api.Raft
} {
	var l []struct {
		what       string
		ahead, rec [][]byte
		then       api.Raft
	}
	add := func(what string, part int, a, b api.Raft) {
		rec := hard.Diff(part, a, b)
		if len(rec) != 1 {
			panic(what)
		}
		l = append(l, struct {
			what       string
			ahead, rec [][]byte
			then       api.Raft
		}{what, to(part, a), rec, b})
	}
	for part := range 2 {
		add("a term", part, of(1, 2, logOf("1S 1a")), of(5, 2, logOf("1S 1a")))
		add("a long term", part, of(1, 2, logOf("1S 1a")), of(1<<40+129, 0, logOf("1S 1a")))
		add("the greatest term", part, of(1, 2, nil), of(math.MaxInt, 5, nil))
		add("a vote", part, of(1, 0, logOf("1S 1a")), of(1, 3, logOf("1S 1a")))
		add("a seal", part, of(3, 2, nil), of(3, 2, logOf("2S")))
		add("an entry", part, of(3, 2, logOf("1S 1a")), of(3, 2, logOf("1S 1a 3b")))
		add("another entry", part, of(3, 2, logOf("1S 1a 2b")), of(3, 2, logOf("1S 2a")))
		add("an entry far behind", part, of(3, 2, longLog(140, 3)), of(3, 2, longLog(141, 3)))
		add("a cut", part, of(3, 2, logOf("1S 1a 2b")), of(3, 2, logOf("1S 1a")))
		add("a cut to none", part, of(3, 2, logOf("1S 1a 2b")), of(3, 2, nil))
		add("a cut of many", part, of(3, 2, longLog(200, 3)), of(3, 2, longLog(130, 3)))
	}
	return l
}

// TestFoldOfNoRecord: nothing, bytes cut off at each place, one more behind or ahead, one turned to each other one.
func TestFoldOfNoRecord(t *testing.T) {
	for _, x := range likely() {
		none := func(what string, rec []byte) {
			t.Helper()
			wantNo(t, x.what+": "+what, append(slices.Clone(x.ahead), rec), 2)
		}
		rec := x.rec[0]
		none("nothing", nil)
		none("an empty one", []byte{})
		for k := range rec {
			none(fmt.Sprintf("cut off at %d", k), rec[:k])
			for c := 1; c < 256; c++ {
				// Behind many, each way to turn a byte would take long: a few do.
				if len(x.ahead) < 20 || c&(c-1) == 0 || c > 253 {
					turned := bytes.Clone(rec)
					turned[k] ^= byte(c)
					none(fmt.Sprintf("byte %d is %d", k, turned[k]), turned)
				}
			}
		}
		for c := range 256 {
			none(fmt.Sprintf("%d behind", c), append(bytes.Clone(rec), byte(c)))
		}
		none("twice as one", append(bytes.Clone(rec), rec...))
		none("the text x", []byte("x"))
		none("zeros", make([]byte, len(rec)))
	}
}

// TestFoldOfNoRecordAmongOthers: one that is none, at each place.
func TestFoldOfNoRecordAmongOthers(t *testing.T) {
	recs := to(0, of(3, 1, logOf("1S 1a 3S")))
	for k := range len(recs) + 1 {
		for _, none := range [][]byte{nil, {}, {0}, []byte("none"), {0, 0, 0}, recs[0][1:]} {
			wantNo(t, fmt.Sprintf("%x at %d", none, k), slices.Insert(slices.Clone(recs), k, none), 1)
		}
	}
}

// TestFoldOfLikely: what those tests turn is a record ahead of that.
func TestFoldOfLikely(t *testing.T) {
	for _, x := range likely() {
		got, ok := hard.Fold(join(x.ahead, x.rec), 2, me, nodes, wait)
		if !ok || !alike(got[0], x.then) && !alike(got[1], x.then) {
			t.Errorf("%s: %v,%s", x.what, ok, briefAll(got))
		}
	}
}

// entryAt is a record of an entry, of term 1, at that index.
func entryAt(i int) [][]byte {
	return hard.Diff(0, of(1, 0, longLog(i-1, 1)), of(1, 0, longLog(i, 1)))
}

// cutTo is a record of a cut to so many.
func cutTo(n int) [][]byte {
	return hard.Diff(0, of(1, 0, longLog(n+1, 1)), of(1, 0, longLog(n, 1)))
}

// TestFoldOfIndex: an entry is at an index from 1 to one behind the last one.
func TestFoldOfIndex(t *testing.T) {
	for n := range 6 {
		ahead := to(0, of(1, 0, logOf("1x 1y 1z 1v 1w")[:n]))
		if n == 0 {
			ahead = to(0, of(1, 0, nil))
		}
		for i := 1; i <= 9; i++ {
			what := fmt.Sprintf("an entry at %d, of %d", i, n)
			if i > n+1 {
				wantNo(t, what, join(ahead, entryAt(i)), 1)
				continue
			}
			want := append(logOf("1x 1y 1z 1v 1w")[:i-1:i-1], longLog(i, 1)[i-1])
			wantFold(t, what, join(ahead, entryAt(i)), of(1, 0, want))
			// It is the last one then.
			wantNo(t, what+", and one two behind it", join(ahead, entryAt(i), entryAt(i+2)), 1)
			wantFold(t, what+", and one behind it", join(ahead, entryAt(i), entryAt(i+1)), of(1, 0, append(want, longLog(i+1, 1)[i])))
		}
	}
	wantNo(t, "far behind", join(to(0, of(1, 0, nil)), entryAt(200)), 1)
}

// TestFoldOfCut: just as many as there are, and one more.
func TestFoldOfCut(t *testing.T) {
	log := logOf("1x 1y 1z 1v 1w")
	for n := range 6 {
		ahead := to(0, of(1, 0, log[:n]))
		for stay := range 9 {
			what := fmt.Sprintf("a cut of %d to %d", n, stay)
			if stay > n {
				wantNo(t, what, join(ahead, cutTo(stay)), 1)
				continue
			}
			wantFold(t, what, join(ahead, cutTo(stay)), of(1, 0, log[:stay]))
			wantFold(t, what+", twice", join(ahead, cutTo(stay), cutTo(stay)), of(1, 0, log[:stay]))
			wantNo(t, what+", and to one more", join(ahead, cutTo(stay), cutTo(stay+1)), 1)
		}
	}
	wantNo(t, "far more", join(to(0, of(1, 0, log)), cutTo(199)), 1)
	wantFold(t, "of nothing", join(to(0, of(1, 0, nil)), cutTo(0)), of(1, 0, nil))
}

// mayNot are records behind which what comes may not be, of one log.
func mayNot() map[string][][]byte {
	full := longLog(api.MaxLog, 3)
	beyond := append(deepLog(full), api.Entry{Term: 3, Seal: true})
	r := of(3, 1, logOf("1S 2a 3S"))
	return map[string][][]byte{
		"a term below the last entry's":         join(to(0, r), hard.Diff(0, r, of(2, 1, r.Log))),
		"a term below the only entry's":         join(to(0, of(2, 1, logOf("2S"))), hard.Diff(0, of(2, 1, nil), of(1, 1, nil))),
		"term 0 of a log":                       join(to(0, r), hard.Diff(0, r, of(0, 1, r.Log))),
		"a term below 0":                        to(0, of(-1, 0, nil)),
		"a term far below 0":                    to(0, of(math.MinInt, 0, nil)),
		"a vote of nobody that there is":        to(0, of(1, nodes+1, nil)),
		"a vote far beyond":                     to(0, of(1, math.MaxInt, nil)),
		"a vote below 0":                        to(0, of(1, -1, nil)),
		"a vote far below 0":                    to(0, of(1, math.MinInt, nil)),
		"a vote alone":                          join(to(0, r), hard.Diff(0, r, of(3, nodes+1, r.Log))),
		"an entry of a term above the member's": join(to(0, r), hard.Diff(0, r, of(3, 1, logOf("1S 2a 3S 4b")))),
		"a first one of a term above":           join(to(0, of(3, 1, nil)), hard.Diff(0, of(3, 1, nil), of(3, 1, logOf("4b")))),
		"an entry of term 1 in term 0":          hard.Diff(0, of(0, 0, nil), of(0, 0, logOf("1b"))),
		"an entry of term 0":                    join(to(0, r), hard.Diff(0, r, of(3, 1, logOf("0a")))),
		"an entry of a term below 0":            join(to(0, r), hard.Diff(0, r, of(3, 1, logOf("-1a")))),
		"an entry of a term far below 0":        join(to(0, r), hard.Diff(0, r, of(3, 1, []api.Entry{{Term: math.MinInt}}))),
		"entries whose terms fall":              join(to(0, r), hard.Diff(0, r, of(3, 1, logOf("1S 2a 3S 2b")))),
		"terms that fall in the midst":          join(to(0, r), hard.Diff(0, r, of(3, 1, logOf("1S 3a 2S 3S")))),
		"terms that fall from the first on":     join(to(0, r), hard.Diff(0, r, of(3, 1, logOf("3S 2S 1S")))),
		"one more than MaxLog":                  join(to(0, of(3, 1, full)), hard.Diff(0, of(3, 1, full), of(3, 1, beyond))),
		"many more than MaxLog":                 to(0, of(3, 1, longLog(2*api.MaxLog, 3))),
	}
}

func TestFoldOfWhatMayNotBe(t *testing.T) {
	for what, recs := range mayNot() {
		wantNo(t, what, recs, 1)
		wantNo(t, what+", of two", recs, 2)
	}
	full := of(3, 1, longLog(api.MaxLog, 3))
	wantFold(t, "MaxLog", to(0, full), full)
	wantFold(t, "MaxLog, the last one another", join(to(0, full), hard.Diff(0, full, of(3, 1, append(longLog(api.MaxLog-1, 3), logOf("3x")...)))), of(3, 1, append(longLog(api.MaxLog-1, 3), logOf("3x")...)))
	for vote := range nodes + 1 {
		wantFold(t, "a vote", to(0, of(1, vote, nil)), of(1, vote, nil))
	}
}

// TestFoldAsksBehindEach record: that all would be well again behind the last one does not count.
func TestFoldAsksBehindEach(t *testing.T) {
	well := of(9, 1, logOf("9S"))
	for what, recs := range mayNot() {
		// A record of each kind that mends all, where it may be folded at all: the term, and the log from its beginning on.
		mend := join(hard.Diff(0, of(0, 0, nil), of(9, 1, nil)), hard.Diff(0, of(9, 1, nil), well))
		wantNo(t, what+", mended", join(recs, mend), 1)
		wantNo(t, what+", and then cut", join(recs, cutTo(0)), 1)
		wantNo(t, what+", and then more of another log", join(recs, to(1, well)), 2)
	}
	wantFold(t, "the mending alone", join(to(0, of(9, 1, nil)), hard.Diff(0, of(9, 1, nil), well)), well)
	// Each record of these may be, in this order alone.
	recs := to(0, of(3, 1, logOf("1S 3a")))
	for _, order := range [][]int{{0, 2, 1}, {1, 0, 2}, {1, 2, 0}, {2, 0, 1}, {2, 1, 0}} {
		wantNo(t, fmt.Sprintf("in order %d", order), [][]byte{recs[order[0]], recs[order[1]], recs[order[2]]}, 1)
	}
	wantFold(t, "in order", recs, of(3, 1, logOf("1S 3a")))
}

// TestFoldOfGreatParts: so many members that there is no room for them, and no answer has so many bytes.
func TestFoldOfGreatParts(t *testing.T) {
	for _, parts := range []int{math.MaxInt, math.MaxInt - 1, 1 << 62, 1 << 40, 1 << 32, 1<<31 - 1, 1 << 24} {
		wantNo(t, fmt.Sprint(parts), nil, parts)
		wantNo(t, fmt.Sprint(parts), to(0, of(1, 0, nil)), parts)
	}
}
