package merge_test

import (
	"math/rand/v2"
	"strings"
	"testing"

	"diwan/api"
	"diwan/merge"
)

func TestAll(t *testing.T) {
	for _, x := range []struct {
		logs, places string
		head         int
	}{
		// one log: all of it
		{"", "", 0},
		{"a", "0.1a", 0},
		{"abc", "0.1a 0.2b 0.3c", 0},
		{"|", "", 0},
		{"|||", "", 0},
		{"ABC", "", 0},
		{"a|", "0.1a", 0},
		{"|a", "0.2a", 0},
		{"a|b", "0.1a 0.3b", 0},
		{"aBc", "0.1a 0.3c", 0},
		{"ab|c||d|ef", "0.1a 0.2b 0.4c 0.7d 0.9e 0.10f", 0},
		{"aaa|a", "0.1a 0.2a 0.3a 0.5a", 0}, // alike, they are four
		// logs that have no transactions
		{",", "", 0},
		{",,", "", 0},
		{"|,", "", 1},
		{",|", "", 0},
		{"|,|", "", 0},
		{"||,|", "", 1},
		{"||,|,|", "", 1},
		{"||,||,|", "", 2},
		{"|||,||,||", "", 1},
		{"AB,|", "", 1},
		// none is sealed: the first one's, and no other one's
		{"a,b", "0.1a", 0},
		{"ab,cd,ef", "0.1a 0.2b", 0},
		{",b", "", 0},
		{",b,c", "", 0},
		// the first batches one behind the other, log by log
		{"a|,b", "0.1a 1.1b", 1},
		{"a|,b,c", "0.1a 1.1b", 1},
		{"a|,b|,c", "0.1a 1.1b 2.1c", 2},
		{"ab|,cd|,ef", "0.1a 0.2b 1.1c 1.2d 2.1e 2.2f", 2},
		{"a|,b|,c|", "0.1a 1.1b 2.1c", 0},
		{"a|d,b|e,c|f", "0.1a 1.1b 2.1c 0.3d", 0},
		// then the second ones, and the third ones
		{"a|d|g,b|e|h,c|f|i", "0.1a 1.1b 2.1c 0.3d 1.3e 2.3f 0.5g", 0},
		{"a|d|g|,b|e|h,c|f|i", "0.1a 1.1b 2.1c 0.3d 1.3e 2.3f 0.5g 1.5h", 1},
		{"a|d|g|,b|e|h|,c|f|i", "0.1a 1.1b 2.1c 0.3d 1.3e 2.3f 0.5g 1.5h 2.5i", 2},
		{"ab|ef|ij,cd|gh|", "0.1a 0.2b 1.1c 1.2d 0.4e 0.5f 1.4g 1.5h 0.7i 0.8j", 0},
		{"ab|ef|,cd|gh|kl", "0.1a 0.2b 1.1c 1.2d 0.4e 0.5f 1.4g 1.5h", 0},
		{"a|c,b|d", "0.1a 1.1b 0.3c", 0},
		{"a|c|,b|d", "0.1a 1.1b 0.3c 1.3d", 1},
		{"a|c|,b|d|", "0.1a 1.1b 0.3c 1.3d", 0},
		{"a|c|e,b|d|f", "0.1a 1.1b 0.3c 1.3d 0.5e", 0},
		// one is sealed less often: the first, one in the midst, the last
		{"a,b|c|d", "0.1a", 0},
		{"ab,c|d|e,f|g|h", "0.1a 0.2b", 0},
		{"a|b,c|d|e,f|g|h", "0.1a 1.1c 2.1f 0.3b", 0},
		{"a|c|d,b", "0.1a 1.1b", 1},
		{"a|d|e,b|f,c|g|h", "0.1a 1.1b 2.1c 0.3d 1.3f", 1},
		{"a|d|e,b|f|g,c", "0.1a 1.1b 2.1c", 2},
		{"a|d|e,b|f|g,c|h", "0.1a 1.1b 2.1c 0.3d 1.3f 2.3h", 2},
		{"a|d|g|j,b|e|h|k,c|f", "0.1a 1.1b 2.1c 0.3d 1.3e 2.3f", 2},
		{"a||||,b", "0.1a 1.1b", 1},
		{"a||||z,b|c", "0.1a 1.1b 1.3c", 1},
		// several are sealed as seldom as each other: the first one of these
		{"a|d|,b|e,c|f", "0.1a 1.1b 2.1c 0.3d 1.3e", 1},
		{"a|d|g,b,c", "0.1a 1.1b", 1},
		{"a,b|d,c", "0.1a", 0},
		{"a|,b|,c,d", "0.1a 1.1b 2.1c", 2},
		// batches of nothing in between
		{"||a,||b", "0.3a", 0},
		{"||a|,||b", "0.3a 1.3b", 1},
		{"|a|,b||", "1.1b 0.2a", 0},
		{"a||c,|b|d", "0.1a 1.2b 0.4c", 0},
		{"a||c|,|b|d", "0.1a 1.2b 0.4c 1.4d", 1},
		{"|||a,b|c|d|e", "1.1b 1.3c 1.5d 0.4a", 0},
		{"|||a|,b|c|d|e", "1.1b 1.3c 1.5d 0.4a 1.7e", 1},
		{"a|b|c,||,d|e|f", "0.1a 2.1d 0.3b 2.3e 0.5c", 0},
		{"a|b|c|,||,d|e|f", "0.1a 2.1d 0.3b 2.3e 0.5c", 1},
		{"|,|,|a", "", 0},
		{"||,||,|a", "2.2a", 2},
		{"||,||,||a", "", 0},
		{",a|b", "", 0},
		{"a|b,", "0.1a", 1},
		{"a|b,,c", "0.1a", 1},
		// Seals that carry a transaction are no transactions
		{"aXb,cYd", "0.1a 1.1c 0.3b", 0},
		{"XaYbZ,cXdYeZ", "1.1c 0.2a 1.3d 0.4b 1.5e", 0},
		// more than MaxParts
		{"a|,b|,c|,d|,e|,f|,g|,h|,i|,j|,k|,l|", "0.1a 1.1b 2.1c 3.1d 4.1e 5.1f 6.1g 7.1h 8.1i 9.1j 10.1k 11.1l", 0},
		{"a|,b|,c|,d|,e|,f|,g|,h|,i|,j|,k,l|", "0.1a 1.1b 2.1c 3.1d 4.1e 5.1f 6.1g 7.1h 8.1i 9.1j 10.1k", 10},
	} {
		want(t, logsOf(x.logs), placesOf(x.places), x.head)
		// the plain ones, too, so that what they are held to elsewhere is what the table says
		if got := plainAll(logsOf(x.logs)); !same(got, placesOf(x.places)) || plainHead(logsOf(x.logs)) != x.head {
			t.Errorf("plainAll(%s) = %s, plainHead = %d", x.logs, where(got), plainHead(logsOf(x.logs)))
		}
	}
}

// TestAllOfNoLogs is nothing, however no logs are handed in.
func TestAllOfNoLogs(t *testing.T) {
	for _, logs := range [][][]api.Entry{nil, {}, make([][]api.Entry, 0, 3), logsOf("a|b,c")[:0], logsOf("a|b,c")[2:]} {
		want(t, logs, nil, -1)
	}
}

// TestAllOfNothing: of logs of no entries, however these are handed in, it is nothing.
func TestAllOfNothing(t *testing.T) {
	for _, l := range [][]api.Entry{nil, {}, make([]api.Entry, 0, 3), logOf("a|b")[:0], logOf("a|b")[3:]} {
		want(t, [][]api.Entry{l}, nil, 0)
		want(t, [][]api.Entry{l, l, l}, nil, 0)
		want(t, [][]api.Entry{l, logOf("a|b")}, nil, 0)
		want(t, [][]api.Entry{logOf("a|b"), l}, placesOf("0.1a"), 1)
	}
}

// TestAllOfAll: each short log alone, all short ones by twos, threes and fours, in every order.
func TestAllOfAll(t *testing.T) {
	for _, a := range signs(10) {
		wantPlain(t, lettered(a))
	}
	for _, a := range signs(5) {
		for _, b := range signs(5) {
			wantPlain(t, lettered(a, b))
		}
	}
	for _, a := range signs(3) {
		for _, b := range signs(3) {
			for _, c := range signs(3) {
				wantPlain(t, lettered(a, b, c))
			}
		}
	}
	for _, a := range signs(2) {
		for _, b := range signs(2) {
			for _, c := range signs(2) {
				for _, d := range signs(2) {
					wantPlain(t, lettered(a, b, c, d))
				}
			}
		}
	}
}

// TestAllByChance: of up to six logs, each as long as one may be.
func TestAllByChance(t *testing.T) {
	r := rand.New(rand.NewPCG(1, 14))
	for range 2000 {
		wantPlain(t, chances(r, 6, api.MaxLog))
		if t.Failed() {
			return
		}
	}
}

// TestEachStandsOnce: a place is one of a transaction, no place stands twice, and of each log it is the first ones that stand, in their order.
func TestEachStandsOnce(t *testing.T) {
	r := rand.New(rand.NewPCG(2, 14))
	for range 300 {
		logs := chances(r, 6, 60)
		at := make([]int, len(logs)) // how far each log was told
		for _, p := range merge.All(logs) {
			l := logs[p.Part]
			for at[p.Part]++; l[at[p.Part]-1].Seal; at[p.Part]++ {
			}
			if p.Index != at[p.Part] || !same([]api.Place{p}, []api.Place{{Part: p.Part, Index: p.Index, T: l[p.Index-1].T}}) {
				t.Fatalf("All(%s): %v, where log %d was told up to %d", textOf(logs), p, p.Part, at[p.Part])
			}
		}
	}
}

// TestAllTakesEntriesAsTheyAre: neither terms nor what a transaction has, one that may not be, or of nothing, too, change its place.
func TestAllTakesEntriesAsTheyAre(t *testing.T) {
	long := strings.Repeat("x", 300)
	for _, e := range []api.Entry{
		{},
		{Term: -1},
		{Term: 1 << 40},
		{T: api.Txn{Session: -1, Seq: 1 << 40}},
		{T: api.Txn{Reads: []api.Read{}, Writes: []api.Write{}}},
		{T: api.Txn{Reads: make([]api.Read, 50)}},
		{T: api.Txn{Writes: make([]api.Write, 50)}},
		{T: api.Txn{Reads: []api.Read{{Key: long, Version: -1, Val: long}}, Writes: []api.Write{{Key: long, Val: long, Gone: true}}}},
		{T: carried('z')},
	} {
		for at := range 2 {
			logs := logsOf("a|b,c|d|")
			logs[0][2*at], logs[1][2-2*at] = e, e
			places := placesOf("0.1a 1.1c 0.3b")
			places[2*at].T = own(e.T)
			if at == 1 {
				places[1].T = own(e.T)
			}
			want(t, logs, places, 0)
		}
		// what a Seal carries, too
		logs := logsOf("a|b,c|d|")
		logs[0][1].T, logs[1][1].T, logs[0][1].Term, logs[1][1].Term = e.T, e.T, e.Term, e.Term
		want(t, logs, placesOf("0.1a 1.1c 0.3b"), 0)
	}
}

// TestAllOfAlike: logs that carry alike are logs of their own.
func TestAllOfAlike(t *testing.T) {
	want(t, logsOf("aa|a,aa|a,aa|a"), placesOf("0.1a 0.2a 1.1a 1.2a 2.1a 2.2a 0.4a"), 0)
	l := logOf("a|b|")
	want(t, [][]api.Entry{l, l, l[:2]}, placesOf("0.1a 1.1a 2.1a 0.3b 1.3b"), 2)
}

// TestAllOfParts: what stands ahead of a log and behind it is not looked at; the indices are those of the part.
func TestAllOfParts(t *testing.T) {
	const a, b = "x|ab|y|", "|pq|r|s"
	for from := range len(a) + 1 {
		for to := from; to <= len(a); to++ {
			for end := range len(b) + 1 {
				logs := [][]api.Entry{logOf(a)[from:to], logOf(b)[:end]}
				want(t, logs, plainAll([][]api.Entry{logOf(a[from:to]), logOf(b[:end])}), plainHead(logs))
			}
		}
	}
}

// TestAllOfMany: of far more logs than MaxParts, and of far longer ones than MaxLog.
func TestAllOfMany(t *testing.T) {
	const many = 1 << 14
	logs := make([][]api.Entry, many)
	for k := range logs {
		logs[k] = logOf("a|b|c")[:3+k%3]
	}
	// Of "a|b", "a|b|" and "a|b|c" the first one is the one that ends: with its second batch, all other ones' first.
	places := make([]api.Place, 0, many+1)
	for k := range logs {
		places = append(places, api.Place{Part: k, Index: 1, T: carried('a')})
	}
	want(t, logs, append(places, api.Place{Part: 0, Index: 3, T: carried('b')}), 0)
	// Where it is the last log, those of all stand.
	logs[many-1] = logOf("a|b")
	for k := range many - 1 {
		logs[k] = logOf("a|b|c")
	}
	for k := range logs {
		places = append(places, api.Place{Part: k, Index: 3, T: carried('b')})
	}
	want(t, logs, places, many-1)
}

func TestAllOfLong(t *testing.T) {
	for _, every := range []int{1, 2, 3, 200, 4097, 1 << 16} {
		logs := make([][]api.Entry, 3)
		for part := range logs {
			logs[part] = make([]api.Entry, 1<<16-part)
			for k := range logs[part] {
				logs[part][k] = api.Entry{Seal: (k+1)%every == 0, T: api.Txn{Session: part, Seq: k}}
			}
		}
		wantPlain(t, logs)
	}
}

func FuzzAll(f *testing.F) {
	for _, s := range []string{"", "a", "|", ",", "a,b", "a|,b", "a|d|g,b|e|h,c|f", "||a,||b|", "aXb,cYd", "a||||z,b|c"} {
		f.Add(s, uint(0))
		f.Add(s, uint(2))
	}
	f.Fuzz(func(t *testing.T, s string, n uint) {
		logs := logsOf(s[:min(len(s), 300)])
		wantPlain(t, logs)
		wantPlain(t, logs[:n%uint(len(logs)+1)])
		wantOn(t, logs, int(n%uint(len(logs))), api.Entry{Seal: n%2 == 0, T: carried('n')})
	})
}
