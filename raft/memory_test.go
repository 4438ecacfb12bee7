package raft_test

import (
	"fmt"
	"slices"
	"strconv"
	"testing"

	"diwan/api"
	"diwan/raft"
)

// roomOf is l with spare room behind it, in which other things stand.
func roomOf[T any](l []T, other T) []T {
	return append(list(l), other, other, other)[:len(l)]
}

func roomyLog(l []api.Entry) []api.Entry {
	l = roomOf(l, api.Entry{Term: 90, T: api.Txn{Session: 91}})
	for i := range l {
		l[i].T.Reads = roomOf(l[i].T.Reads, api.Read{Key: "room"})
		l[i].T.Writes = roomOf(l[i].T.Writes, api.Write{Key: "room"})
	}
	return l
}

func roomyRaft(r api.Raft) api.Raft {
	r.Log = roomyLog(r.Log)
	r.Votes, r.Next, r.Match = roomOf(r.Votes, true), roomOf(r.Next, 77), roomOf(r.Match, 78)
	return r
}

func roomyMsg(m api.Msg) api.Msg {
	m.Entries = roomyLog(m.Entries)
	return m
}

// whole is all of l, with the room behind it.
func whole[T any](l []T) []T { return l[:cap(l)] }

func wholeLog(l []api.Entry) []api.Entry {
	l = slices.Clone(whole(l))
	for i := range l {
		l[i].T.Reads, l[i].T.Writes = slices.Clone(whole(l[i].T.Reads)), slices.Clone(whole(l[i].T.Writes))
	}
	return l
}

// wholeRaft is a copy of r, with all the room behind its lists.
func wholeRaft(r api.Raft) api.Raft {
	r.Log = wholeLog(r.Log)
	r.Votes, r.Next, r.Match = slices.Clone(whole(r.Votes)), slices.Clone(whole(r.Next)), slices.Clone(whole(r.Match))
	return r
}

// spoilers write over one of the lists of l each, and the room behind it: those of the entries first, l itself last.
func spoilers(l []api.Entry) []func() {
	var all []func()
	for _, e := range whole(l) {
		all = append(all,
			func() { fill(e.T.Reads, api.Read{Key: "spoilt", Version: -7}) },
			func() { fill(e.T.Writes, api.Write{Key: "spoilt", Gone: true}) })
	}
	return append(all, func() { fill(l, api.Entry{Term: -7, Seal: true, T: carried('!')}) })
}

func fill[T any](l []T, with T) {
	for i := range whole(l) {
		whole(l)[i] = with
	}
}

func raftSpoilers(r api.Raft) []func() {
	return append(spoilers(r.Log),
		func() {
			for i := range whole(r.Votes) {
				whole(r.Votes)[i] = !whole(r.Votes)[i]
			}
		},
		func() { fill(r.Next, -77) },
		func() { fill(r.Match, -78) })
}

func msgSpoilers(m api.Msg) []func() { return spoilers(m.Entries) }

// act is one thing that is done to a state.
type act struct {
	what string
	do   func() (told api.Raft, out []api.Msg)
	in   []func() // write over what was handed in
	was  func() bool
}

// acts are all calls, of states in each role, with room behind all lists.
func acts() []act {
	var all []act
	states := append(inEachRole(),
		with(of(1, 1, api.Follower, 2, logOf("1a 2b")), func(r *api.Raft) { r.Clock = 9 }),
		with(of(2, 3, api.Leader, 5, longLog(api.MaxLog, 5)), func(r *api.Raft) { r.Next[0], r.Match[2] = 7, 9 }),
		with(likely(), func(r *api.Raft) { r.Commit = -1 }),
		of(2, 3, api.Leader, 5, logOf("1a 2b 2c 3d 4e 5f 5g")))
	for k, s := range states {
		add := func(what string, do func(r api.Raft) (api.Raft, []api.Msg, []func(), func() bool)) {
			r := roomyRaft(deep(s))
			was := wholeRaft(r)
			told, out, more, same := do(r)
			all = append(all, act{
				what: fmt.Sprintf("state %d, %s", k, what),
				do:   func() (api.Raft, []api.Msg) { return told, out },
				in:   append(raftSpoilers(r), more...),
				was:  func() bool { return alike(wholeRaft(r), was) && same() },
			})
		}
		yes := func() bool { return true }
		add("Tick", func(r api.Raft) (api.Raft, []api.Msg, []func(), func() bool) {
			told, out := raft.Tick(r)
			return told, out, nil, yes
		})
		add("Tick at Wait", func(r api.Raft) (api.Raft, []api.Msg, []func(), func() bool) {
			r.Clock = 9
			told, out := raft.Tick(r)
			return told, out, nil, yes
		})
		add("Again", func(r api.Raft) (api.Raft, []api.Msg, []func(), func() bool) {
			return raft.Again(r), nil, nil, yes
		})
		add("Propose", func(r api.Raft) (api.Raft, []api.Msg, []func(), func() bool) {
			l := roomyLog([]api.Entry{{T: carried('p')}})
			was := wholeLog(l)
			told, out, _ := raft.Propose(r, l[0])
			return told, out, spoilers(l), func() bool { return alike(api.Raft{Log: wholeLog(l)}, api.Raft{Log: was}) }
		})
		for kind := api.AskVote; kind <= api.Submit; kind++ {
			for _, term := range []int{4, 5, 6} {
				for _, ok := range []bool{false, true} {
					for _, index := range []int{0, 2, 4, 9} {
						add(fmt.Sprintf("Take of kind %d, term %d, %v, index %d", kind, term, ok, index), func(r api.Raft) (api.Raft, []api.Msg, []func(), func() bool) {
							m := roomyMsg(api.Msg{Kind: kind, From: 1, To: 2, Term: term, OK: ok, Index: index, LogTerm: plainTerm(r.Log, index), Commit: 3, Entries: logOf("5x 6y")})
							was := wholeLog(m.Entries)
							told, out := raft.Take(r, m)
							return told, out, msgSpoilers(m), func() bool { return alike(api.Raft{Log: wholeLog(m.Entries)}, api.Raft{Log: was}) }
						})
					}
				}
			}
		}
	}
	return all
}

// TestHandedInStays: neither the state, the letter nor the entry that is handed in is changed, nor the room behind their lists.
func TestHandedInStays(t *testing.T) {
	for _, a := range acts() {
		if !a.was() {
			t.Errorf("%s: what was handed in has changed", a.what)
		}
	}
}

// TestHandedInIsNotKept: what is told stays as it is, whatever becomes of what was handed in.
func TestHandedInIsNotKept(t *testing.T) {
	for _, a := range acts() {
		told, out := a.do()
		wasTold, wasOut := deep(told), deepMsgs(out)
		for _, spoil := range a.in {
			spoil()
		}
		want(t, a.what+", when what was handed in is spoilt", told, out, wasTold, wasOut)
	}
}

// TestToldIsNew: what was handed in stays as it is, whatever becomes of what is told.
func TestToldIsNew(t *testing.T) {
	for _, a := range acts() {
		told, out := a.do()
		spoil := raftSpoilers(told)
		for _, m := range out {
			spoil = append(spoil, msgSpoilers(m)...)
		}
		for _, f := range append(spoil, func() { fill(out, api.Msg{Kind: -7}) }) {
			f()
		}
		if !a.was() {
			t.Errorf("%s: what was handed in is spoilt with what is told", a.what)
		}
	}
}

// numbered hands each entry of all lists, with the room behind them, to do, with a number of its own.
func numbered(logs [][]api.Entry, do func(n int, e *api.Entry)) {
	n := 0
	for _, l := range logs {
		for i := range whole(l) {
			n++
			do(n, &whole(l)[i])
		}
	}
}

// TestToldListsStandAlone: no two lists of what is told share memory: the state's, the letters', each entry's: a number written all over one of them is not to be found in another.
func TestToldListsStandAlone(t *testing.T) {
	for _, a := range acts() {
		told, out := a.do()
		logs := [][]api.Entry{told.Log}
		for _, m := range out {
			logs = append(logs, m.Entries)
		}
		numbered(logs, func(n int, e *api.Entry) {
			e.Term = n
			fill(e.T.Reads, api.Read{Version: n})
			fill(e.T.Writes, api.Write{Val: strconv.Itoa(n)})
		})
		numbered(logs, func(n int, e *api.Entry) {
			other := e.Term != n
			for _, r := range whole(e.T.Reads) {
				other = other || r.Version != n
			}
			for _, w := range whole(e.T.Writes) {
				other = other || w.Val != strconv.Itoa(n)
			}
			if other {
				t.Errorf("%s: entry %d of all lists shares memory with another one", a.what, n)
			}
		})
		fill(told.Next, 77)
		fill(told.Match, 78)
		if slices.Contains(whole(told.Next), 78) {
			t.Errorf("%s: Next and Match share memory", a.what)
		}
	}
}

// TestSameAndMayLeaveAll as it is.
func TestSameAndMayLeaveAll(t *testing.T) {
	for _, x := range append(ones(), unlike()...) {
		a, b := roomyRaft(deep(likely())), roomyRaft(with(likely(), x.turn))
		wasA, wasB := wholeRaft(a), wholeRaft(b)
		raft.May(a)
		raft.May(b)
		raft.Same(a, b)
		if !alike(wholeRaft(a), wasA) || !alike(wholeRaft(b), wasB) {
			t.Errorf("%s: what was handed in has changed", x.what)
		}
	}
}

// TestNewEachTime: no two calls tell the same memory.
func TestNewEachTime(t *testing.T) {
	one, other := raft.New(1, 3, 5), raft.New(1, 3, 5)
	for _, f := range raftSpoilers(one) {
		f()
	}
	want(t, "New", other, nil, fresh(1, 3, 5), nil)
	if one = raft.New(1, 3, 5); !slices.Equal(one.Next, one.Match) {
		t.Errorf("New = %s", briefRaft(one))
	}
	one.Next[0] = 7
	if one.Match[0] != 0 {
		t.Error("Next and Match of New share memory")
	}
	r := likely()
	for range 2 {
		told, out := raft.Tick(r)
		wantR, wantOut := plainTick(r)
		want(t, "Tick", told, out, wantR, wantOut)
		for _, f := range raftSpoilers(told) {
			f()
		}
		for _, m := range out {
			for _, f := range msgSpoilers(m) {
				f()
			}
		}
	}
}
