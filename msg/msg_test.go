package msg_test

import (
	"math"
	"slices"
	"strings"
	"testing"

	"diwan/api"
	"diwan/msg"
)

func TestMay(t *testing.T) {
	for _, x := range mays() {
		if !msg.May(x.m) || !plainMay(x.m) {
			t.Errorf("%s: %+v may be", x.what, x.m)
		}
	}
	for _, x := range noes() {
		if msg.May(x.m) || plainMay(x.m) {
			t.Errorf("%s: %.500v may not be", x.what, x.m)
		}
	}
}

// TestMayEachHead: each Kind, From, To and Part with each other.
func TestMayEachHead(t *testing.T) {
	for kind := -2; kind <= 12; kind++ {
		for from := -2; from <= 8; from++ {
			for to := -2; to <= 8; to++ {
				for part := -2; part <= 5; part++ {
					x := least(kind)
					x.From, x.To, x.Part = from, to, part
					want := 1 <= kind && kind <= 9 && 1 <= from && from <= 5 && 1 <= to && to <= 5 && from != to && 0 <= part && part <= 2
					if got := msg.May(x); got != want {
						t.Errorf("Kind %d, From %d, To %d, Part %d: %v", kind, from, to, part, got)
					}
				}
			}
		}
	}
}

// TestMayEachField: each Kind with each field of each of some letters, alone: it may be where the Kind names that field.
func TestMayEachField(t *testing.T) {
	for _, kind := range kinds {
		for _, f := range fields() {
			for _, of := range []api.Msg{rich(), top(), little()} {
				if slices.Contains(heads, f) {
					continue
				}
				x := least(kind)
				set(&x, f, of)
				if got := msg.May(x); got != namedBy(kind, f) {
					t.Errorf("Kind %d, %s: %v", kind, f, got)
				}
			}
		}
	}
}

// TestMayEachNumber: each number of each Kind, about each of its edges.
func TestMayEachNumber(t *testing.T) {
	edges := []int{0, api.MaxShards, int(api.ENone) + 1, 1 << 8, 1 << 16, 1 << 31, 1 << 32, most, 1 << 48, 1 << 62}
	for _, kind := range kinds {
		for f := range strings.SplitSeq(named[kind], ", ") {
			if !isNumber(f) {
				continue
			}
			end := most
			if f == "Shard" {
				end = 2
			} else if f == "Err" {
				end = 6
			}
			for _, edge := range edges {
				for d := -3; d <= 3; d++ {
					x := of(kind, rich())
					setNumber(&x, f, edge+d)
					if got, want := msg.May(x), 0 <= edge+d && edge+d <= end; got != want {
						t.Errorf("Kind %d, %s %d: %v", kind, f, edge+d, got)
					}
				}
			}
		}
	}
}

// TestMayEachRead: a read of Got is asked for its key, its Version and how long its Val is, not whether these go together, as one of a T is.
func TestMayEachRead(t *testing.T) {
	for _, version := range []int{math.MinInt, -1, 0, 1, 2, most - 1, most, most + 1, math.MaxInt} {
		for n := range 20 {
			for _, there := range []bool{true, false} {
				r := api.Read{Key: "k", Version: version, Val: strings.Repeat("v", n), There: there}
				x := least(api.Reads)
				x.Got = []api.Read{r}
				if got, want := msg.May(x), 0 <= version && version <= most && n <= 16; got != want {
					t.Errorf("%+v: %v", r, got)
				}
			}
		}
	}
}

// TestMayFarBeyond: what is far too long is told apart at once.
func TestMayFarBeyond(t *testing.T) {
	long := strings.Repeat("x", 1<<20)
	for _, x := range []told{
		but("Entries", api.Append, func(m *api.Msg) { m.Entries = make([]api.Entry, 1<<18) }),
		but("Keys", api.AskRead, func(m *api.Msg) { m.Keys = make([]string, 1<<20) }),
		but("Keys", api.Reads, func(m *api.Msg) { m.Keys = []string{long, long + "y"} }),
		but("Got", api.Reads, func(m *api.Msg) { m.Got = make([]api.Read, 1<<18) }),
		but("Val", api.Reads, func(m *api.Msg) { m.Got[0].Val = long }),
		but("FromKey", api.AskRead, func(m *api.Msg) { m.FromKey = long }),
		but("ToKey", api.Reads, func(m *api.Msg) { m.ToKey = long }),
		but("T", api.Submit, func(m *api.Msg) { m.T.Reads = make([]api.Read, 1<<18) }),
		but("T that is not named", api.Vote, func(m *api.Msg) { m.T.Writes = make([]api.Write, 1<<18) }),
		but("Entries that are not named", api.Vote, func(m *api.Msg) { m.Entries = make([]api.Entry, 1<<18) }),
	} {
		if msg.May(x.m) || len(msg.Put(x.m)) != 0 || !msg.Same(x.m, x.m) {
			t.Errorf("%s: it may not be", x.what)
		}
	}
}

// turns are changes, each of one thing in rich.
func turns() []func(*api.Msg) {
	l := []func(*api.Msg){
		func(m *api.Msg) { m.OK = false },
		func(m *api.Msg) { m.Span = false },
		func(m *api.Msg) { m.FromKey = "" },
		func(m *api.Msg) { m.FromKey = "A" },
		func(m *api.Msg) { m.ToKey = "" },
		func(m *api.Msg) { m.ToKey = "zz" },
		func(m *api.Msg) { m.FromKey, m.ToKey = m.ToKey, m.FromKey },
		func(m *api.Msg) { m.OK, m.Span, m.FromKey = false, false, "b" },
		func(m *api.Msg) { m.From, m.To = m.To, m.From },
		func(m *api.Msg) { m.Term, m.Index = m.Index, m.Term },
		func(m *api.Msg) { m.Entries = nil },
		func(m *api.Msg) { m.Entries = m.Entries[1:] },
		func(m *api.Msg) { m.Entries = m.Entries[:3] },
		func(m *api.Msg) { m.Entries = append(m.Entries, api.Entry{}) },
		func(m *api.Msg) { m.Entries[0], m.Entries[1] = m.Entries[1], m.Entries[0] },
		func(m *api.Msg) { m.Entries[0].Term++ },
		func(m *api.Msg) { m.Entries[0].Seal = true },
		func(m *api.Msg) { m.Entries[0].T = api.Txn{} },
		func(m *api.Msg) { m.Entries[0].T.Seq++ },
		func(m *api.Msg) { m.Entries[0].T.Reads[2].Key = "d" },
		func(m *api.Msg) { m.Entries[0].T.Writes[2].Gone = true },
		func(m *api.Msg) { m.Entries[3].Term-- },
		func(m *api.Msg) { m.Entries[3].Seal = false },
		func(m *api.Msg) { m.Entries[3].T.Session = 1 },
		func(m *api.Msg) { m.T = api.Txn{} },
		func(m *api.Msg) { m.T.Session++ },
		func(m *api.Msg) { m.T.Seq++ },
		func(m *api.Msg) { m.T.Reads = m.T.Reads[:2] },
		func(m *api.Msg) { m.T.Reads[1].There = true },
		func(m *api.Msg) { m.T.Writes[0].Val = "one" },
		func(m *api.Msg) { m.Keys = nil },
		func(m *api.Msg) { m.Keys = m.Keys[1:] },
		func(m *api.Msg) { m.Keys = m.Keys[:2] },
		func(m *api.Msg) { m.Keys = append(m.Keys, "") },
		func(m *api.Msg) { m.Keys[0] = "A" },
		func(m *api.Msg) { m.Keys[1] = "abc" },
		func(m *api.Msg) { m.Keys[2] = "" },
		func(m *api.Msg) { m.Got = nil },
		func(m *api.Msg) { m.Got = m.Got[1:] },
		func(m *api.Msg) { m.Got = m.Got[:2] },
		func(m *api.Msg) { m.Got = append(m.Got, api.Read{}) },
		func(m *api.Msg) { m.Got[0], m.Got[1] = m.Got[1], m.Got[0] },
		func(m *api.Msg) { m.Got[0].Key = "A" },
		func(m *api.Msg) { m.Got[0].Version-- },
		func(m *api.Msg) { m.Got[0].Val = "" },
		func(m *api.Msg) { m.Got[0].There = false },
		func(m *api.Msg) { m.Got[2].Key = "d" },
		func(m *api.Msg) { m.Got[2].Version = -1 },
		func(m *api.Msg) { m.Got[2].Val = "\x00" },
		func(m *api.Msg) { m.Got[2].There = true },
	}
	for _, f := range fields() {
		if isNumber(f) {
			for _, v := range []int{-1, 0, 77, 1<<32 + 5, math.MaxInt} {
				l = append(l, func(m *api.Msg) { setNumber(m, f, v) })
			}
		}
	}
	return l
}

func TestSame(t *testing.T) {
	for _, x := range all() {
		if !msg.Same(x.m, x.m) || !msg.Same(x.m, copyOf(x.m)) || !msg.Same(copyOf(x.m), x.m) {
			t.Errorf("%s: %+v is not the same as itself", x.what, x.m)
		}
	}
	for i, turn := range turns() {
		x := rich()
		turn(&x)
		if msg.Same(x, rich()) || msg.Same(rich(), x) {
			t.Errorf("change %d is not seen: %+v", i, x)
		}
		for j, other := range turns() {
			y := rich()
			other(&y)
			if got := msg.Same(x, y); got != (i == j) || got != plainSame(x, y) {
				t.Errorf("changes %d and %d: %v", i, j, got)
			}
		}
	}
}

// TestSameOfAll holds Same to plainSame, of each two of all letters that may be.
func TestSameOfAll(t *testing.T) {
	l := mays()
	var ps []api.Msg
	for _, x := range l {
		ps = append(ps, plain(x.m))
	}
	for i, x := range l {
		for j, y := range l {
			// Letters of other Kinds differ: only some of these are asked.
			if x.m.Kind != y.m.Kind && (i+j)%7 != 0 {
				continue
			}
			if got := msg.Same(x.m, y.m); got != plainSame(ps[i], ps[j]) {
				t.Errorf("%s, %s: Same(%+v, %+v) = %v", x.what, y.what, x.m, y.m, got)
			}
		}
	}
}

// TestSameOfNothing: nil and an empty list are one, and spare room is none of it.
func TestSameOfNothing(t *testing.T) {
	empty := []api.Msg{
		{},
		{Entries: []api.Entry{}, Keys: []string{}, Got: []api.Read{}, T: api.Txn{Reads: []api.Read{}, Writes: []api.Write{}}},
		{Entries: rich().Entries[:0], Keys: rich().Keys[:0], Got: rich().Got[:0], T: api.Txn{Reads: some().Reads[:0], Writes: some().Writes[:0]}},
	}
	for _, x := range empty {
		for _, y := range empty {
			if !msg.Same(x, y) {
				t.Error("nil and an empty list are one")
			}
			a, b := api.Msg{Entries: []api.Entry{{T: x.T}}}, api.Msg{Entries: []api.Entry{{T: y.T}}}
			if !msg.Same(a, b) {
				t.Error("nil and an empty list of an entry's T are one")
			}
		}
	}
	x, y := rich(), rich()
	x.Entries, y.Entries = x.Entries[:2], append(y.Entries[:2:2], seal(9), seal(9))[:2]
	x.Keys, y.Keys = x.Keys[:1], append(y.Keys[:1:1], "other", "room")[:1]
	x.Got, y.Got = x.Got[:1], append(y.Got[:1:1], api.Read{Key: "other"})[:1]
	if !msg.Same(x, y) {
		t.Error("what stands in the room behind a list does not count")
	}
}

// roomy is m whose lists, those of a T too, have spare room with something in it.
func roomy(m api.Msg) api.Msg {
	m = copyOf(m)
	for i := range m.Entries {
		m.Entries[i].T = roomyTxn(m.Entries[i].T)
	}
	m.Entries = append(m.Entries, seal(99))[:len(m.Entries)]
	m.T = roomyTxn(m.T)
	m.Keys = append(m.Keys, "spare")[:len(m.Keys)]
	m.Got = append(m.Got, api.Read{Key: "spare"})[:len(m.Got)]
	return m
}

func roomyTxn(t api.Txn) api.Txn {
	t.Reads = append(t.Reads, api.Read{Key: "spare"})[:len(t.Reads)]
	t.Writes = append(t.Writes, api.Write{Key: "spare"})[:len(t.Writes)]
	return t
}

// whole is m with its lists as long as their room.
func whole(m api.Msg) api.Msg {
	m.Entries, m.Keys, m.Got = m.Entries[:cap(m.Entries)], m.Keys[:cap(m.Keys)], m.Got[:cap(m.Got)]
	m.T.Reads, m.T.Writes = m.T.Reads[:cap(m.T.Reads)], m.T.Writes[:cap(m.T.Writes)]
	return m
}

// TestWhatIsHandedInStays: and so does the room behind its lists.
func TestWhatIsHandedInStays(t *testing.T) {
	for _, x := range all() {
		if len(x.m.Got) > 100 {
			continue
		}
		in := roomy(x.m)
		was := copyOf(whole(in))
		msg.May(in)
		msg.Same(in, in)
		msg.Put(in)
		if !plainSame(whole(in), was) || !plainSame(in, x.m) {
			t.Errorf("%s: %+v is now %+v", x.what, was, whole(in))
		}
	}
}
