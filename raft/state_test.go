package raft_test

import (
	"math"
	"reflect"
	"testing"

	"diwan/api"
	"diwan/raft"
)

func TestNew(t *testing.T) {
	for _, x := range []struct {
		me, nodes, wait int
		want            api.Raft
	}{
		{1, 1, 1, api.Raft{Me: 1, Nodes: 1, Wait: 1, Votes: []bool{false}, Next: []int{0}, Match: []int{0}}},
		{1, 2, 60, api.Raft{Me: 1, Nodes: 2, Wait: 60, Votes: []bool{false, false}, Next: []int{0, 0}, Match: []int{0, 0}}},
		{2, 3, 7, api.Raft{Me: 2, Nodes: 3, Wait: 7, Votes: make([]bool, 3), Next: make([]int, 3), Match: make([]int, 3)}},
		{4, 4, 3, api.Raft{Me: 4, Nodes: 4, Wait: 3, Votes: make([]bool, 4), Next: make([]int, 4), Match: make([]int, 4)}},
		{5, 5, 9, api.Raft{Me: 5, Nodes: 5, Wait: 9, Votes: make([]bool, 5), Next: make([]int, 5), Match: make([]int, 5)}},
	} {
		got := raft.New(x.me, x.nodes, x.wait)
		if !alike(got, x.want) {
			t.Errorf("New(%d, %d, %d) = %s", x.me, x.nodes, x.wait, briefRaft(got))
		}
		if !raft.May(got) {
			t.Errorf("New(%d, %d, %d) may not be", x.me, x.nodes, x.wait)
		}
		if got.Role != api.Follower || len(got.Log) != 0 || got.Vote != 0 || got.Leader != 0 {
			t.Errorf("New(%d, %d, %d) = %s", x.me, x.nodes, x.wait, briefRaft(got))
		}
	}
}

// TestNewOfEach: whatever it is handed, it tells just these, and they may be where they are within the limits.
func TestNewOfEach(t *testing.T) {
	numbers := []int{math.MinInt, -6, -1, 0, 1, 2, 3, 4, 5, 6, 7, 59, 60, 61, 1 << 40, math.MaxInt}
	for _, me := range numbers {
		for _, nodes := range numbers {
			for _, wait := range numbers {
				r := raft.New(me, nodes, wait)
				if r.Me != me || r.Nodes != nodes || r.Wait != wait {
					t.Errorf("New(%d, %d, %d) = %s", me, nodes, wait, briefRaft(r))
				}
				may := 1 <= nodes && nodes <= 5 && 1 <= me && me <= nodes && 1 <= wait && wait <= 60
				if raft.May(r) != may {
					t.Errorf("May of New(%d, %d, %d) = %v", me, nodes, wait, !may)
				}
				if may && !alike(r, fresh(me, nodes, wait)) {
					t.Errorf("New(%d, %d, %d) = %s", me, nodes, wait, briefRaft(r))
				}
			}
		}
	}
}

// likely is a state that may be, in which each thing is there; that it leads and says another one does, no letters bring about.
func likely() api.Raft {
	return api.Raft{
		Me: 3, Nodes: 5, Wait: 8,
		Term: 9, Vote: 2, Log: logOf("1S 1a 4b 9S 9c 9d"), Commit: 4,
		Role: api.Leader, Leader: 1,
		Votes: []bool{true, false, true, false, false},
		Next:  []int{7, 6, 5, 3, 2}, Match: []int{4, 3, 6, 1, 0},
		Clock: 11,
	}
}

// one is a change to a state, at an edge or beyond it.
type one struct {
	what string
	may  bool
	turn func(r *api.Raft)
}

// nodes makes r one of n, with lists of so many places.
func nodes(n int) func(r *api.Raft) {
	return func(r *api.Raft) {
		r.Nodes = n
		r.Me, r.Vote, r.Leader = 1, 0, 0
		r.Votes, r.Next, r.Match = make([]bool, max(n, 0)), make([]int, max(n, 0)), make([]int, max(n, 0))
	}
}

func numberOnes() []one {
	var l []one
	number := func(what string, field func(r *api.Raft) *int, may bool, values ...int) {
		for _, v := range values {
			l = append(l, one{what, may, func(r *api.Raft) { *field(r) = v }})
		}
	}
	fields := []struct {
		what        string
		of          func(r *api.Raft) *int
		least, most int
	}{
		{"Me", func(r *api.Raft) *int { return &r.Me }, 1, 5},
		{"Wait", func(r *api.Raft) *int { return &r.Wait }, 1, 60},
		{"Term", func(r *api.Raft) *int { return &r.Term }, 9, math.MaxInt},
		{"Vote", func(r *api.Raft) *int { return &r.Vote }, 0, 5},
		{"Leader", func(r *api.Raft) *int { return &r.Leader }, 0, 5},
		{"Commit", func(r *api.Raft) *int { return &r.Commit }, 0, 6},
		{"Role", func(r *api.Raft) *int { return &r.Role }, 0, 2},
		{"Clock", func(r *api.Raft) *int { return &r.Clock }, 0, math.MaxInt},
	}
	for _, f := range fields {
		number(f.what, f.of, true, f.least, f.least+1, f.most-1, f.most)
		number(f.what, f.of, false, f.least-1, -1, math.MinInt, math.MinInt32)
		if f.most < math.MaxInt {
			number(f.what, f.of, false, f.most+1, f.most+2, 1<<32+f.least, math.MaxInt)
		}
	}
	return l
}

func nodesOnes() []one {
	var l []one
	for n := -2; n <= 8; n++ {
		l = append(l, one{"Nodes and their lists", 1 <= n && n <= 5, nodes(n)})
		if n != 5 {
			l = append(l, one{"Nodes alone", false, func(r *api.Raft) { r.Nodes = n }})
		}
	}
	for n := range 9 {
		l = append(l,
			one{"places of Votes", n == 5, func(r *api.Raft) { r.Votes = make([]bool, n) }},
			one{"places of Next", n == 5, func(r *api.Raft) { r.Next = make([]int, n) }},
			one{"places of Match", n == 5, func(r *api.Raft) { r.Match = make([]int, n) }})
	}
	for _, v := range []int{math.MinInt, -1, 0, 1, 5, 6, 7, 8, 300, math.MaxInt} {
		for i := range 5 {
			l = append(l,
				one{"a place of Next", true, func(r *api.Raft) { r.Next[i] = v }},
				one{"a place of Match", true, func(r *api.Raft) { r.Match[i] = v }})
		}
	}
	return append(l,
		one{"Nodes of all numbers", false, func(r *api.Raft) { r.Nodes = math.MaxInt }},
		one{"Nodes of all numbers", false, func(r *api.Raft) { r.Nodes = math.MinInt }},
		one{"all Votes", true, func(r *api.Raft) { r.Votes = []bool{true, true, true, true, true} }},
		one{"no Votes", true, func(r *api.Raft) { clear(r.Votes) }},
		one{"Me above Nodes", false, func(r *api.Raft) { nodes(2)(r); r.Me = 3 }},
		one{"Me as Nodes", true, func(r *api.Raft) { nodes(2)(r); r.Me = 2 }},
		one{"Vote above Nodes", false, func(r *api.Raft) { nodes(2)(r); r.Vote = 3 }},
		one{"Vote as Nodes", true, func(r *api.Raft) { nodes(2)(r); r.Vote = 2 }},
		one{"Leader above Nodes", false, func(r *api.Raft) { nodes(2)(r); r.Leader = 3 }},
		one{"Leader as Nodes", true, func(r *api.Raft) { nodes(2)(r); r.Leader = 2 }})
}

func logOnes() []one {
	var l []one
	log := func(what string, may bool, term, commit int, log []api.Entry) {
		l = append(l, one{what, may, func(r *api.Raft) { r.Term, r.Commit, r.Log = term, commit, log }})
	}
	log("no log", true, 9, 0, nil)
	log("no log, of term 0", true, 0, 0, nil)
	log("no log, of a term below 0", false, -1, 0, nil)
	log("no log, of the least term", false, math.MinInt, 0, nil)
	log("no log, a Commit", false, 9, 1, nil)
	log("a log of term 0", false, 0, 0, logOf("1a"))
	log("one below MaxLog", true, 1, 0, longLog(api.MaxLog-1, 1))
	log("MaxLog", true, 1, 0, longLog(api.MaxLog, 1))
	log("MaxLog, all committed", true, 1, api.MaxLog, longLog(api.MaxLog, 1))
	log("MaxLog and a Commit above", false, 1, api.MaxLog+1, longLog(api.MaxLog, 1))
	log("one above MaxLog", false, 1, 0, longLog(api.MaxLog+1, 1))
	log("many above MaxLog", false, 1, 0, longLog(3*api.MaxLog, 1))
	log("terms as Term", true, 3, 0, logOf("3a 3b 3c"))
	log("terms of which one is above Term", false, 3, 0, logOf("3a 3b 4c"))
	log("terms above Term", false, 3, 0, logOf("4a 4b 4c"))
	log("terms that rise by one", true, 3, 0, logOf("1a 2b 3c"))
	log("terms that rise by more", true, 100, 0, logOf("7a 50b 100c"))
	log("a first term of 0", false, 3, 0, logOf("0a 2b 3c"))
	log("a middle term of 0", false, 3, 0, logOf("1a 0b 3c"))
	log("a last term of 0", false, 3, 0, logOf("1a 2b 0c"))
	log("terms of 0", false, 3, 0, logOf("0a 0b 0c"))
	log("a term below 0", false, 3, 0, logOf("-1a 2b 3c"))
	log("terms below 0", false, 3, 0, logOf("-3a -2b -1c"))
	log("terms that fall at once", false, 3, 0, logOf("2a 1b 3c"))
	log("terms that fall at last", false, 3, 0, logOf("1a 3b 2c"))
	log("terms that fall below the first, not the last", false, 9, 0, logOf("5a 5b 4c 5d"))
	log("great terms", true, math.MaxInt, 0, []api.Entry{{Term: 1}, {Term: math.MaxInt - 1}, {Term: math.MaxInt}})
	log("all of a log is committed", true, 3, 3, logOf("1a 2b 3c"))
	log("more than all of a log is committed", false, 3, 4, logOf("1a 2b 3c"))
	log("entries that no transaction may be", true, 3, 0, []api.Entry{{Term: 1, T: api.Txn{Session: -1, Seq: -7}}, {Term: 3, Seal: true, T: carried('a')}})
	return l
}

func ones() []one { return append(append(numberOnes(), nodesOnes()...), logOnes()...) }

func TestMay(t *testing.T) {
	if !raft.May(likely()) {
		t.Fatal("May(likely) = false")
	}
	if raft.May(api.Raft{}) {
		t.Error("May of nothing = true")
	}
	for _, x := range ones() {
		r := likely()
		x.turn(&r)
		if got := raft.May(r); got != x.may {
			t.Errorf("%s: May(%s) = %v", x.what, briefRaft(r), got)
		}
		if plainMay(r) != x.may {
			t.Errorf("%s: plainMay(%s) = %v", x.what, briefRaft(r), !x.may)
		}
	}
}

// TestMayOfEachRole, and of Nodes: roles that nobody comes to by letters may be, too.
func TestMayOfEachRole(t *testing.T) {
	for n := 1; n <= api.MaxNodes; n++ {
		for me := 1; me <= n; me++ {
			for role := range 3 {
				for leader := range n + 1 {
					for vote := range n + 1 {
						r := fresh(me, n, 1)
						r.Role, r.Leader, r.Vote = role, leader, vote
						if !raft.May(r) {
							t.Errorf("May(%s) = false", briefRaft(r))
						}
					}
				}
			}
		}
	}
}

// unlike are changes after each of which a state is another one, in one thing alone.
func unlike() []one {
	l := []one{
		{what: "Me", turn: func(r *api.Raft) { r.Me++ }},
		{what: "Nodes", turn: func(r *api.Raft) { r.Nodes++ }},
		{what: "Wait", turn: func(r *api.Raft) { r.Wait++ }},
		{what: "Term", turn: func(r *api.Raft) { r.Term++ }},
		{what: "Vote", turn: func(r *api.Raft) { r.Vote++ }},
		{what: "Commit", turn: func(r *api.Raft) { r.Commit++ }},
		{what: "Role", turn: func(r *api.Raft) { r.Role-- }},
		{what: "Leader", turn: func(r *api.Raft) { r.Leader++ }},
		{what: "Clock", turn: func(r *api.Raft) { r.Clock++ }},
		{what: "Clock by 1 << 32", turn: func(r *api.Raft) { r.Clock += 1 << 32 }},
		{what: "no log", turn: func(r *api.Raft) { r.Log = nil }},
		{what: "no Votes", turn: func(r *api.Raft) { r.Votes = nil }},
		{what: "no Next", turn: func(r *api.Raft) { r.Next = nil }},
		{what: "no Match", turn: func(r *api.Raft) { r.Match = nil }},
		{what: "a vote more", turn: func(r *api.Raft) { r.Votes = append(r.Votes, false) }},
		{what: "a Next more", turn: func(r *api.Raft) { r.Next = append(r.Next, 0) }},
		{what: "a Match more", turn: func(r *api.Raft) { r.Match = append(r.Match, 0) }},
		{what: "a vote less", turn: func(r *api.Raft) { r.Votes = r.Votes[:4] }},
		{what: "a Next less", turn: func(r *api.Raft) { r.Next = r.Next[:4] }},
		{what: "a Match less", turn: func(r *api.Raft) { r.Match = r.Match[:4] }},
		{what: "an entry more", turn: func(r *api.Raft) { r.Log = append(r.Log, api.Entry{}) }},
		{what: "an entry less", turn: func(r *api.Raft) { r.Log = r.Log[:5] }},
		{what: "two entries changed over", turn: func(r *api.Raft) { r.Log[4], r.Log[5] = r.Log[5], r.Log[4] }},
	}
	for i := range 5 {
		l = append(l,
			one{what: "a vote", turn: func(r *api.Raft) { r.Votes[i] = !r.Votes[i] }},
			one{what: "a Next", turn: func(r *api.Raft) { r.Next[i]++ }},
			one{what: "a Match", turn: func(r *api.Raft) { r.Match[i]-- }})
	}
	for i := range 6 {
		l = append(l,
			one{what: "an entry's Term", turn: func(r *api.Raft) { r.Log[i].Term++ }},
			one{what: "an entry's Seal", turn: func(r *api.Raft) { r.Log[i].Seal = !r.Log[i].Seal }},
			one{what: "an entry's Session", turn: func(r *api.Raft) { r.Log[i].T.Session++ }},
			one{what: "an entry's Seq", turn: func(r *api.Raft) { r.Log[i].T.Seq++ }},
			one{what: "an entry's Reads", turn: func(r *api.Raft) { r.Log[i].T.Reads = append(r.Log[i].T.Reads, api.Read{}) }},
			one{what: "an entry's Writes", turn: func(r *api.Raft) { r.Log[i].T.Writes = append(r.Log[i].T.Writes, api.Write{}) }})
	}
	return append(l,
		one{what: "a Read's Key", turn: func(r *api.Raft) { r.Log[1].T.Reads[0].Key = "y" }},
		one{what: "a Read's Version", turn: func(r *api.Raft) { r.Log[2].T.Reads[0].Version++ }},
		one{what: "a Read's Val", turn: func(r *api.Raft) { r.Log[4].T.Reads[0].Val = "y" }},
		one{what: "a Read's There", turn: func(r *api.Raft) { r.Log[5].T.Reads[0].There = false }},
		one{what: "a Write's Key", turn: func(r *api.Raft) { r.Log[1].T.Writes[0].Key = "y" }},
		one{what: "a Write's Val", turn: func(r *api.Raft) { r.Log[2].T.Writes[1].Val = "y" }},
		one{what: "a Write's Gone", turn: func(r *api.Raft) { r.Log[5].T.Writes[1].Gone = false }})
}

func TestSame(t *testing.T) {
	if !raft.Same(likely(), likely()) || !raft.Same(api.Raft{}, api.Raft{}) {
		t.Error("what is alike is not the same")
	}
	all := unlike()
	for i, x := range all {
		a, b := likely(), likely()
		x.turn(&b)
		if raft.Same(a, b) || raft.Same(b, a) {
			t.Errorf("%s is unlike, but they are the same", x.what)
		}
		if !raft.Same(b, deep(b)) {
			t.Errorf("%s: what is alike is not the same", x.what)
		}
		for k, y := range all {
			c := likely()
			y.turn(&c)
			if got := raft.Same(b, c); got != alike(b, c) || got != (i == k) {
				t.Errorf("Same of %s and %s = %v", x.what, y.what, got)
			}
		}
	}
}

// TestSameOfNone: nil and an empty list are one.
func TestSameOfNone(t *testing.T) {
	a := api.Raft{Log: []api.Entry{}, Votes: []bool{}, Next: []int{}, Match: []int{}}
	if !raft.Same(a, api.Raft{}) || !raft.Same(api.Raft{}, a) {
		t.Error("nil and an empty list are two")
	}
	b, c := likely(), likely()
	b.Log[0].T.Reads, b.Log[0].T.Writes = []api.Read{}, make([]api.Write, 0, 3)
	if !raft.Same(b, c) || !raft.Same(c, b) {
		t.Error("nil and an empty list of an entry are two")
	}
}

// TestSameOfWhatMayNotBe answers by its words, too.
func TestSameOfWhatMayNotBe(t *testing.T) {
	for _, x := range ones() {
		a, b := likely(), likely()
		x.turn(&a)
		x.turn(&b)
		if !raft.Same(a, b) {
			t.Errorf("%s: what is alike is not the same", x.what)
		}
		if raft.Same(a, likely()) != alike(a, likely()) {
			t.Errorf("%s: Same(%s, likely) = %v", x.what, briefRaft(a), !alike(a, likely()))
		}
	}
}

func TestAgain(t *testing.T) {
	log := logOf("1S 1a 2b")
	for _, x := range []struct {
		what    string
		r, want api.Raft
	}{
		{"as New", fresh(2, 3, 7), fresh(2, 3, 7)},
		{
			"a Follower",
			api.Raft{Me: 2, Nodes: 3, Wait: 7, Term: 4, Vote: 1, Log: log, Commit: 2, Leader: 1, Votes: []bool{true, false, true}, Next: []int{4, 3, 2}, Match: []int{1, 2, 3}, Clock: 5},
			api.Raft{Me: 2, Nodes: 3, Wait: 7, Term: 4, Vote: 1, Log: log, Votes: []bool{false, false, false}, Next: []int{0, 0, 0}, Match: []int{0, 0, 0}},
		},
		{
			"a Candidate",
			api.Raft{Me: 3, Nodes: 3, Wait: 60, Term: 4, Vote: 3, Log: log, Commit: 3, Role: api.Candidate, Votes: []bool{false, false, true}, Next: make([]int, 3), Match: make([]int, 3), Clock: 59},
			api.Raft{Me: 3, Nodes: 3, Wait: 60, Term: 4, Vote: 3, Log: log, Votes: []bool{false, false, false}, Next: []int{0, 0, 0}, Match: []int{0, 0, 0}},
		},
		{
			"a Leader",
			api.Raft{Me: 1, Nodes: 2, Wait: 1, Term: 2, Vote: 1, Log: log, Commit: 3, Role: api.Leader, Leader: 1, Votes: []bool{true, true}, Next: []int{4, 4}, Match: []int{3, 3}, Clock: 1},
			api.Raft{Me: 1, Nodes: 2, Wait: 1, Term: 2, Vote: 1, Log: log, Votes: []bool{false, false}, Next: []int{0, 0}, Match: []int{0, 0}},
		},
		{
			"one of one",
			api.Raft{Me: 1, Nodes: 1, Wait: 1, Term: 9, Vote: 1, Log: longLog(api.MaxLog, 3), Commit: api.MaxLog, Role: api.Leader, Leader: 1, Votes: []bool{true}, Next: []int{200}, Match: []int{200}},
			api.Raft{Me: 1, Nodes: 1, Wait: 1, Term: 9, Vote: 1, Log: longLog(api.MaxLog, 3), Votes: []bool{false}, Next: []int{0}, Match: []int{0}},
		},
	} {
		if !raft.May(x.r) {
			t.Errorf("%s may not be", x.what)
		}
		got := raft.Again(x.r)
		want(t, x.what, got, nil, x.want, nil)
		if !raft.May(got) {
			t.Errorf("%s: Again may not be", x.what)
		}
		want(t, x.what+", twice", raft.Again(got), nil, x.want, nil)
	}
}

// TestAgainHangsOnWhatLasts alone: of states in which anything else is unlike, it is the same.
func TestAgainHangsOnWhatLasts(t *testing.T) {
	for _, x := range append(ones(), unlike()...) {
		r := likely()
		x.turn(&r)
		got := raft.Again(r)
		if got.Me != r.Me || got.Nodes != r.Nodes || got.Wait != r.Wait || got.Term != r.Term || got.Vote != r.Vote || !reflect.DeepEqual(deepLog(got.Log), deepLog(r.Log)) {
			t.Errorf("%s: Again(%s) = %s", x.what, briefRaft(r), briefRaft(got))
		}
		if !raft.May(r) {
			continue
		}
		again := fresh(r.Me, r.Nodes, r.Wait)
		again.Term, again.Vote, again.Log = r.Term, r.Vote, r.Log
		want(t, x.what, got, nil, again, nil)
	}
}
