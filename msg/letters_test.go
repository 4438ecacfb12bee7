package msg_test

import (
	"bytes"
	"math"
	"reflect"
	"slices"
	"strings"
	"testing"

	"diwan/api"
	"diwan/txn"
)

const (
	val16 = "0123456789abcdef" // as many bytes as a Val may have
	most  = 1 << 40            // the greatest number that may be
)

// kinds are all that may be.
var kinds = []int{1, 2, 3, 4, 5, 6, 7, 8, 9}

// heads are the fields of each Kind.
var heads = []string{"Kind", "From", "To", "Part"}

// named are the fields that each Kind names, in P6.1's words.
var named = map[int]string{
	api.AskVote:  "Term, Index, LogTerm",
	api.Vote:     "Term, OK",
	api.Append:   "Term, Index, LogTerm, Commit, Entries",
	api.Appended: "Term, OK, Index",
	api.Submit:   "T",
	api.AskBit:   "Pos, Shard",
	api.Bit:      "Pos, Shard, OK",
	api.AskRead:  "Session, Seq, Pos, Shard, Span, FromKey, ToKey, Keys",
	api.Reads:    "Session, Seq, Pos, Shard, Span, FromKey, ToKey, Keys, Err, Got",
}

// namedBy tells whether kind names the field, or each Kind has it.
func namedBy(kind int, field string) bool {
	return slices.Contains(heads, field) || slices.Contains(strings.Split(named[kind], ", "), field)
}

// fields are all that a letter has.
func fields() []string {
	var l []string
	for f := range reflect.TypeFor[api.Msg]().Fields() {
		l = append(l, f.Name)
	}
	return l
}

// set puts into m's field what of has there.
func set(m *api.Msg, field string, of api.Msg) {
	reflect.ValueOf(m).Elem().FieldByName(field).Set(reflect.ValueOf(of).FieldByName(field))
}

// setNumber puts v into m's field, a number.
func setNumber(m *api.Msg, field string, v int) {
	reflect.ValueOf(m).Elem().FieldByName(field).SetInt(int64(v))
}

// isNumber tells whether a letter's field is one, be it an Errno.
func isNumber(field string) bool {
	f, _ := reflect.TypeFor[api.Msg]().FieldByName(field)
	return f.Type.Kind() == reflect.Int
}

// seal and entry are of a log.
func seal(term int) api.Entry { return api.Entry{Term: term, Seal: true} }

func entry(term int, t api.Txn) api.Entry { return api.Entry{Term: term, T: t} }

// some is a transaction that may be.
func some() api.Txn {
	return api.Txn{
		Session: 3,
		Seq:     300,
		Reads:   []api.Read{{Key: "a", Version: 300, Val: "one", There: true}, {Key: "b", Version: 7}, {Key: "c"}},
		Writes:  []api.Write{{Key: "a", Val: "two"}, {Key: "b", Gone: true}, {Key: "c"}},
	}
}

// greatest is a transaction that has as much as one may have.
func greatest() api.Txn {
	t := api.Txn{Session: api.MaxSession, Seq: api.MaxSeq}
	for i := range api.MaxReads {
		t.Reads = append(t.Reads, api.Read{Key: "1234567" + string(rune('a'+i)), Version: math.MaxInt - i, Val: val16, There: true})
	}
	for i := range api.MaxWrites {
		t.Writes = append(t.Writes, api.Write{Key: "~~~~~~~" + string(rune('a'+i)), Val: val16})
	}
	return t
}

// gots are n reads that may be, of keys as long as may be.
func gots(n int) []api.Read {
	var l []api.Read
	for i := range n {
		k := string([]byte{'k', byte(33 + i/90%90), byte(33 + i%90)}) + "~!~!~"
		l = append(l, api.Read{Key: k, Version: most - i, Val: val16, There: i%2 == 0})
	}
	return l
}

// keys are n that may be, of one to three bytes.
func keys(n int) []string {
	var l []string
	for i := range n {
		l = append(l, string(bytes.Repeat([]byte{byte(33 + i)}, 1+i%3)))
	}
	return l
}

// rich is no letter: it has something in each field.
func rich() api.Msg {
	return api.Msg{
		Kind: api.Append, From: 2, To: 3, Part: 1,
		Term: 5, Index: 127, LogTerm: 128, Commit: 300,
		OK:      true,
		Entries: []api.Entry{entry(1, some()), seal(2), entry(2, api.Txn{Session: 1, Seq: 1}), seal(4)},
		T:       some(),
		Session: 8, Seq: 500, Pos: 1000, Shard: 2,
		Span:    true,
		FromKey: "a", ToKey: "z",
		Keys: []string{"a", "ab", "b"},
		Got:  []api.Read{{Key: "a", Version: 300, Val: "one", There: true}, {Key: "b", Version: 7}, {Key: "c"}},
		Err:  api.EOld,
	}
}

// top is no letter: it has as much in each field as may be.
func top() api.Msg {
	t := greatest()
	return api.Msg{
		Kind: api.Reads, From: api.MaxNodes, To: api.MaxNodes - 1, Part: api.MaxParts - 1,
		Term: most, Index: most, LogTerm: most, Commit: most,
		OK:      true,
		Entries: []api.Entry{entry(most, t), entry(most, greatest()), entry(most, greatest()), entry(most, greatest())},
		T:       t,
		Session: most, Seq: most, Pos: most, Shard: api.MaxShards - 1,
		Span:    true,
		FromKey: "\xff\xff\xff\xff\xff\xff\xff\xff", ToKey: "\x00\x00\x00\x00\x00\x00\x00\x00",
		Keys: []string{"1234567a", "1234567b", "1234567c", "1234567d", "1234567e", "1234567f"},
		Got:  gots(64),
		Err:  api.ENone,
	}
}

// of is a letter of kind, which has what m has in the fields that the Kind names.
func of(kind int, m api.Msg) api.Msg {
	x := api.Msg{Kind: kind, From: m.From, To: m.To, Part: m.Part}
	for f := range strings.SplitSeq(named[kind], ", ") {
		set(&x, f, m)
	}
	return x
}

// least is a letter of kind that has as little as may be.
func least(kind int) api.Msg {
	x := api.Msg{Kind: kind, From: 1, To: 2}
	if kind == api.Submit {
		x.T = api.Txn{Session: 1, Seq: 1}
	}
	return x
}

// told is a letter, and what is to be seen of it.
type told struct {
	what string
	m    api.Msg
}

// but is of(kind, rich()), changed by turn.
func but(what string, kind int, turn func(*api.Msg)) told {
	m := of(kind, rich())
	turn(&m)
	return told{what, m}
}

// mays may be.
func mays() []told {
	var l []told
	for _, kind := range kinds {
		l = append(l, told{"least", least(kind)}, told{"rich", of(kind, rich())}, told{"top", of(kind, top())})
		l = append(l, but("all lists that it does not name are empty", kind, func(m *api.Msg) {
			x := api.Msg{Entries: []api.Entry{}, T: api.Txn{Reads: []api.Read{}, Writes: []api.Write{}}, Keys: []string{}, Got: []api.Read{}}
			for _, f := range []string{"Entries", "T", "Keys", "Got"} {
				if !namedBy(kind, f) {
					set(m, f, x)
				}
			}
		}))
	}
	return slices.Concat(l, mayNumbers(), mayEntries(), mayTexts(), mayGots())
}

// mayNumbers have numbers that may be, at their edges.
func mayNumbers() []told {
	var l []told
	for _, kind := range kinds {
		for _, x := range [][2]int{{1, 2}, {2, 1}, {1, 5}, {5, 1}, {4, 5}, {5, 4}, {3, 3 - 1}} {
			l = append(l, but("From, To", kind, func(m *api.Msg) { m.From, m.To = x[0], x[1] }))
		}
		for v := range api.MaxParts {
			l = append(l, but("Part", kind, func(m *api.Msg) { m.Part = v }))
		}
		for f := range strings.SplitSeq(named[kind], ", ") {
			if !isNumber(f) {
				continue
			}
			vs := []int{0, 1, 2, 127, 128, 1 << 32, most - 1, most}
			if f == "Shard" {
				vs = []int{0, 1, 2}
			} else if f == "Err" {
				vs = []int{0, 1, 2, 3, 4, 5, 6}
			}
			for _, v := range vs {
				l = append(l, but(f, kind, func(m *api.Msg) { setNumber(m, f, v) }))
			}
		}
	}
	return l
}

// mayEntries have Entries that may be.
func mayEntries() []told {
	var l []told
	for n := range api.MaxSend + 1 {
		l = append(l, but("so many Entries", api.Append, func(m *api.Msg) { m.Entries = m.Entries[:n] }))
		l = append(l, but("so many seals", api.Append, func(m *api.Msg) { m.Entries = slices.Repeat([]api.Entry{seal(1)}, n) }))
	}
	for _, v := range []int{0, 1, most - 1, most} {
		l = append(l, but("Term of a transaction", api.Append, func(m *api.Msg) { m.Entries[0].Term = v }))
		l = append(l, but("Term of a seal", api.Append, func(m *api.Msg) { m.Entries[1].Term = v }))
	}
	l = append(l,
		but("Terms that fall", api.Append, func(m *api.Msg) { m.Entries[0].Term = 9 }),
		but("a seal's T is of empty lists", api.Append, func(m *api.Msg) { m.Entries[1].T = api.Txn{Reads: []api.Read{}, Writes: []api.Write{}} }),
		but("a T's Version is the greatest", api.Append, func(m *api.Msg) { m.Entries[0].T.Reads[1].Version = math.MaxInt }),
		but("T's Version is the greatest", api.Submit, func(m *api.Msg) { m.T.Reads[1].Version = math.MaxInt }),
	)
	return l
}

// mayTexts have FromKey, ToKey and Keys that may be.
func mayTexts() []told {
	var l []told
	for _, kind := range []int{api.AskRead, api.Reads} {
		for _, k := range []string{"", "a", "12345678", "a b", "\x00", "\xff\xff", "\u00e4\u00e4\u00e4\u00e4"} {
			l = append(l, but("FromKey", kind, func(m *api.Msg) { m.FromKey = k }))
			l = append(l, but("ToKey", kind, func(m *api.Msg) { m.ToKey = k }))
		}
		l = append(l,
			but("FromKey above ToKey", kind, func(m *api.Msg) { m.FromKey, m.ToKey = "b", "a" }),
			but("no Span", kind, func(m *api.Msg) { m.Span = false }),
			but("a key of each end", kind, func(m *api.Msg) { m.Keys = []string{"!", "!!!!!!!!", "~~~~~~~~"} }),
		)
		for n := range api.MaxReads + 1 {
			l = append(l, but("so many Keys", kind, func(m *api.Msg) { m.Keys = keys(n) }))
		}
	}
	return l
}

// mayGots have Got that may be.
func mayGots() []told {
	var l []told
	for _, n := range []int{0, 1, 2, 6, 7, 63, 64} {
		l = append(l, but("so many Got", api.Reads, func(m *api.Msg) { m.Got = gots(n) }))
	}
	for _, v := range []int{0, 1, most - 1, most} {
		for n := range 17 {
			for _, yes := range []bool{true, false} {
				r := api.Read{Key: "k", Version: v, Val: strings.Repeat("\xff", n), There: yes}
				l = append(l, but("a read of Got", api.Reads, func(m *api.Msg) { m.Got = []api.Read{r} }))
			}
		}
	}
	for err := api.OK; err <= api.ENone; err++ {
		l = append(l, but("Err beside Got", api.Reads, func(m *api.Msg) { m.Err = err }))
	}
	return l
}

// noes may not be.
func noes() []told {
	l := []told{{"nothing at all", api.Msg{}}, {"all fields", rich()}, {"all fields, each as great as may be", top()}}
	return slices.Concat(l, noHeads(), noNumbers(), noEntries(), noTxns(), noTexts(), noGots(), unnamed())
}

// noHeads have a Kind, From, To or Part that may not be.
func noHeads() []told {
	var l []told
	for _, v := range []int{math.MinInt, -9, -1, 0, 10, 11, 256 + 1, 1<<32 + 1, most, math.MaxInt} {
		x := least(api.AskVote)
		x.Kind = v
		l = append(l, told{"Kind", x})
	}
	for _, kind := range kinds {
		for _, v := range []int{math.MinInt, -1, 0, api.MaxNodes + 1, 256 + 1, 1<<32 + 1, math.MaxInt} {
			l = append(l, but("From", kind, func(m *api.Msg) { m.From = v }))
			l = append(l, but("To", kind, func(m *api.Msg) { m.To = v }))
			l = append(l, but("From and To", kind, func(m *api.Msg) { m.From, m.To = v, v }))
		}
		for v := range api.MaxNodes {
			l = append(l, but("From and To alike", kind, func(m *api.Msg) { m.From, m.To = v+1, v+1 }))
		}
		for _, v := range []int{math.MinInt, -1, api.MaxParts, api.MaxParts + 1, 256, 1 << 32, most, math.MaxInt} {
			l = append(l, but("Part", kind, func(m *api.Msg) { m.Part = v }))
		}
	}
	return l
}

// noNumbers have a number that may not be, where its Kind names it.
func noNumbers() []told {
	var l []told
	for _, kind := range kinds {
		for f := range strings.SplitSeq(named[kind], ", ") {
			if !isNumber(f) {
				continue
			}
			vs := []int{math.MinInt, -1 << 40, -300, -1, most + 1, most + 2, 1 << 41, 1 << 62, math.MaxInt}
			if f == "Shard" {
				vs = append(vs, api.MaxShards, api.MaxShards+1, 256, 1<<32, most)
			} else if f == "Err" {
				vs = append(vs, int(api.ENone)+1, int(api.ENone)+2, 256, 1<<32, most)
			}
			for _, v := range vs {
				l = append(l, but(f, kind, func(m *api.Msg) { setNumber(m, f, v) }))
			}
		}
	}
	return l
}

// noEntries have Entries that may not be, at each place.
func noEntries() []told {
	var l []told
	for _, n := range []int{1, 2, 100} {
		l = append(l, but("too many seals", api.Append, func(m *api.Msg) { m.Entries = slices.Repeat([]api.Entry{seal(1)}, api.MaxSend+n) }))
		l = append(l, but("too many transactions", api.Append, func(m *api.Msg) { m.Entries = slices.Repeat([]api.Entry{entry(1, some())}, api.MaxSend+n) }))
	}
	for i := range api.MaxSend {
		for _, v := range []int{math.MinInt, -1, most + 1, math.MaxInt} {
			l = append(l, but("Term of an entry", api.Append, func(m *api.Msg) { m.Entries[i].Term = v }))
		}
		for _, x := range noT() {
			l = append(l, but("T of an entry", api.Append, func(m *api.Msg) { m.Entries[i] = entry(1, x) }))
		}
		for _, x := range notZero() {
			l = append(l, but("T of a seal", api.Append, func(m *api.Msg) { m.Entries[i] = api.Entry{Term: 1, Seal: true, T: x} }))
		}
	}
	return l
}

// noT may not be.
func noT() []api.Txn {
	l := []api.Txn{{}, {Session: 1}, {Seq: 1}, {Session: 10, Seq: 1}, {Session: 1, Seq: 1001}, {Reads: []api.Read{}, Writes: []api.Write{}}}
	for _, turn := range []func(*api.Txn){
		func(t *api.Txn) { t.Session = -1 },
		func(t *api.Txn) { t.Reads[0].Version = 0 },
		func(t *api.Txn) { t.Reads[1].Val = "x" },
		func(t *api.Txn) { t.Reads[2].Version = -1 },
		func(t *api.Txn) { t.Reads[2].Key = "b" },
		func(t *api.Txn) { t.Writes[0].Val += val16 },
		func(t *api.Txn) { t.Writes[1].Val = "x" },
		func(t *api.Txn) { t.Writes[2].Key = "" },
		func(t *api.Txn) { t.Reads = gots(7) },
		func(t *api.Txn) { t.Writes = append(t.Writes, api.Write{Key: "d"}, api.Write{Key: "e"}) },
	} {
		t := some()
		turn(&t)
		l = append(l, t)
	}
	return l
}

// notZero have something: some of them may be, some may not.
func notZero() []api.Txn {
	return []api.Txn{
		some(), {Session: 1, Seq: 1}, {Session: 1}, {Seq: 1}, {Session: -1},
		{Reads: []api.Read{{}}}, {Reads: []api.Read{{Key: "a"}}}, {Writes: []api.Write{{}}}, {Writes: []api.Write{{Key: "a"}}},
	}
}

// noTxns have a T that may not be.
func noTxns() []told {
	var l []told
	for _, x := range noT() {
		l = append(l, but("T", api.Submit, func(m *api.Msg) { m.T = x }))
	}
	return l
}

// noTexts have FromKey, ToKey or Keys that may not be.
func noTexts() []told {
	var l []told
	for _, kind := range []int{api.AskRead, api.Reads} {
		for _, n := range []int{9, 10, 255, 256, 1 << 16} {
			l = append(l, but("FromKey", kind, func(m *api.Msg) { m.FromKey = strings.Repeat("x", n) }))
			l = append(l, but("ToKey", kind, func(m *api.Msg) { m.ToKey = strings.Repeat("x", n) }))
		}
		for _, n := range []int{1, 2, 80} {
			l = append(l, but("too many Keys", kind, func(m *api.Msg) { m.Keys = keys(api.MaxReads + n) }))
		}
		for _, n := range []int{1, 2, 3, 6} {
			for i := range n {
				for _, k := range []string{"", " ", "a b", "\x7f", "b\x00", "a\xff", "123456789", strings.Repeat("x", 300)} {
					l = append(l, but("a key that may not be", kind, func(m *api.Msg) { m.Keys = keys(n); m.Keys[i] = k }))
				}
				j := (i + 1) % n
				if i == j {
					continue
				}
				l = append(l, but("a key twice", kind, func(m *api.Msg) { m.Keys = keys(n); m.Keys[i] = m.Keys[j] }))
				l = append(l, but("two keys changed places", kind, func(m *api.Msg) {
					m.Keys = keys(n)
					m.Keys[i], m.Keys[j] = m.Keys[j], m.Keys[i]
				}))
			}
		}
	}
	return l
}

// noGots have Got that may not be, at each place.
func noGots() []told {
	var l []told
	turned := func(what string, n int, turn func([]api.Read)) {
		l = append(l, but(what, api.Reads, func(m *api.Msg) { m.Got = gots(n); turn(m.Got) }))
	}
	for _, n := range []int{65, 66, 128, 1 << 12} {
		turned("too many Got", n, func([]api.Read) {})
	}
	for _, n := range []int{1, 2, 7, 64} {
		for i := range n {
			for _, k := range []string{"", "a b", "123456789", "\x7f"} {
				turned("a key that may not be", n, func(l []api.Read) { l[i].Key = k })
			}
			for _, v := range []int{math.MinInt, -1, most + 1, math.MaxInt} {
				turned("Version", n, func(l []api.Read) { l[i].Version = v })
			}
			for _, more := range []int{1, 2, 239, 240, 1 << 16} {
				turned("Val", n, func(l []api.Read) { l[i].Val += strings.Repeat("x", more) })
				turned("Val of what is not there", n, func(l []api.Read) { l[i].Val += strings.Repeat("x", more); l[i].There = false })
			}
			j := (i + 1) % n
			if i == j {
				continue
			}
			turned("a key twice", n, func(l []api.Read) { l[i].Key = l[j].Key })
			turned("two changed places", n, func(l []api.Read) { l[i], l[j] = l[j], l[i] })
		}
	}
	return l
}

// unnamed have something, be it as little as there is, in a field that their Kind does not name.
func unnamed() []told {
	var l []told
	for _, kind := range kinds {
		for _, f := range fields() {
			if namedBy(kind, f) {
				continue
			}
			for _, x := range []api.Msg{rich(), top(), little()} {
				for _, m := range []api.Msg{of(kind, rich()), of(kind, top()), least(kind)} {
					set(&m, f, x)
					l = append(l, told{f + " is not named", m})
				}
			}
			if isNumber(f) {
				for _, v := range []int{math.MinInt, -1, 1, 2, 3, most, most + 1, math.MaxInt} {
					l = append(l, but(f+" is not named", kind, func(m *api.Msg) { setNumber(m, f, v) }))
				}
			}
		}
		for _, x := range notZero() {
			if kind != api.Submit {
				l = append(l, but("T is not named", kind, func(m *api.Msg) { m.T = x }))
			}
		}
	}
	return l
}

// little is no letter: in each field it has as little as is not nothing.
func little() api.Msg {
	return api.Msg{
		Term: 1, Index: 1, LogTerm: 1, Commit: 1,
		OK:      true,
		Entries: []api.Entry{seal(0)},
		T:       api.Txn{Session: 1, Seq: 1},
		Session: 1, Seq: 1, Pos: 1, Shard: 1,
		Span:    true,
		FromKey: "\x00", ToKey: "\x00",
		Keys: []string{"!"},
		Got:  []api.Read{{Key: "!"}},
		Err:  1,
	}
}

// all are both.
func all() []told {
	return slices.Concat(mays(), noes())
}

// copyOf shares nothing with m.
func copyOf(m api.Msg) api.Msg {
	m.Entries = slices.Clone(m.Entries)
	for i := range m.Entries {
		m.Entries[i].T = copyOfTxn(m.Entries[i].T)
	}
	m.T = copyOfTxn(m.T)
	m.Keys, m.Got = slices.Clone(m.Keys), slices.Clone(m.Got)
	return m
}

func copyOfTxn(t api.Txn) api.Txn {
	t.Reads, t.Writes = slices.Clone(t.Reads), slices.Clone(t.Writes)
	return t
}

// plain is m with nil for each list that is empty: two letters are the same where reflect.DeepEqual says so of these.
func plain(m api.Msg) api.Msg {
	m = copyOf(m)
	for i := range m.Entries {
		m.Entries[i].T = plainTxn(m.Entries[i].T)
	}
	m.Entries, m.T, m.Keys, m.Got = orNil(m.Entries), plainTxn(m.T), orNil(m.Keys), orNil(m.Got)
	return m
}

func plainTxn(t api.Txn) api.Txn {
	t.Reads, t.Writes = orNil(t.Reads), orNil(t.Writes)
	return t
}

func orNil[T any](l []T) []T {
	if len(l) == 0 {
		return nil
	}
	return l
}

// plainSame is P6.1's word on Same.
func plainSame(a, b api.Msg) bool {
	return reflect.DeepEqual(plain(a), plain(b))
}

// plainKeys: do they rise, and may each be?
func plainKeys(l []string) bool {
	for i, k := range l {
		if len(k) < 1 || len(k) > 8 || i > 0 && bytes.Compare([]byte(l[i-1]), []byte(k)) >= 0 {
			return false
		}
		for j := 0; j < len(k); j++ {
			if k[j] < 33 || k[j] > 126 {
				return false
			}
		}
	}
	return true
}

// plainMay is P6.1's word on May.
func plainMay(m api.Msg) bool {
	if m.Kind < 1 || m.Kind > 9 || m.From < 1 || m.From > 5 || m.To < 1 || m.To > 5 || m.From == m.To || m.Part < 0 || m.Part > 2 {
		return false
	}
	p := reflect.ValueOf(plain(m))
	for _, f := range fields() {
		v := p.FieldByName(f)
		if !namedBy(m.Kind, f) && !v.IsZero() || isNumber(f) && (v.Int() < 0 || v.Int() > 1<<40) {
			return false
		}
	}
	if m.Shard > 2 || m.Err > 6 || m.Kind == api.Submit && !txn.May(m.T) {
		return false
	}
	if len(m.Entries) > 4 || len(m.Keys) > 6 || len(m.Got) > 64 || len(m.FromKey) > 8 || len(m.ToKey) > 8 {
		return false
	}
	for _, e := range m.Entries {
		zero := reflect.ValueOf(plainTxn(e.T)).IsZero()
		if e.Term < 0 || e.Term > 1<<40 || e.Seal && !zero || !e.Seal && !txn.May(e.T) {
			return false
		}
	}
	var got []string
	for _, r := range m.Got {
		got = append(got, r.Key)
		if r.Version < 0 || r.Version > 1<<40 || len(r.Val) > 16 {
			return false
		}
	}
	return plainKeys(m.Keys) && plainKeys(got)
}

// chance makes numbers of all kinds, the same each time.
type chance uint64

func (c *chance) below(n int) int {
	*c = *c*6364136223846793005 + 1442695040888963407
	return int(uint64(*c)>>33) % n
}

// odd is v, but now and then one of others.
func (c *chance) odd(v int, others ...int) int {
	if c.below(60) == 0 {
		return others[c.below(len(others))]
	}
	return v
}

// letter makes a letter, most often one that may be.
func (c *chance) letter() api.Msg {
	number := func() int { return c.odd(c.below(400)<<c.below(32), most, most+1, -1, 0) }
	x := api.Msg{
		Kind: c.odd(1+c.below(9), 0, 10), From: c.odd(1+c.below(2), 0, 6), To: c.odd(3+c.below(3), 0, 6, 1), Part: c.odd(c.below(3), -1, 3),
		Term: number(), Index: number(), LogTerm: number(), Commit: number(),
		OK: c.below(2) == 0, T: c.txn(),
		Session: number(), Seq: number(), Pos: number(), Shard: c.odd(c.below(3), -1, 3),
		Span:    c.below(2) == 0,
		FromKey: strings.Repeat("f", c.odd(c.below(9), 9)), ToKey: strings.Repeat("t", c.odd(c.below(9), 9)),
		Keys: c.keys(c.odd(c.below(7), 7)), Err: api.Errno(c.odd(c.below(7), 7, -1)),
	}
	for range c.odd(c.below(5), 5) {
		e := api.Entry{Term: number(), Seal: c.below(2) == 0}
		if e.Seal == (c.below(60) == 0) {
			e.T = c.txn()
		}
		x.Entries = append(x.Entries, e)
	}
	for _, k := range c.keys(c.odd(c.below(12), 64, 65)) {
		x.Got = append(x.Got, api.Read{Key: k, Version: number(), Val: strings.Repeat("v", c.odd(c.below(17), 17)), There: c.below(2) == 0})
	}
	if x.Kind < 1 || x.Kind > 9 || c.below(20) == 0 {
		return x
	}
	y := of(c.odd(x.Kind, kinds...), x)
	y.Kind = x.Kind
	return y
}

// keys makes n keys, most often such as rise.
func (c *chance) keys(n int) []string {
	var l []string
	for i := range n {
		l = append(l, string([]byte{byte(c.odd(33+i, 32, 33, 120)), byte(c.odd(33+c.below(94), 127))}))
	}
	return l
}

// txn makes a transaction, most often one that may be.
func (c *chance) txn() api.Txn {
	x := api.Txn{Session: c.odd(1+c.below(9), 10), Seq: c.odd(1+c.below(1000), 0)}
	for _, k := range c.keys(c.below(4)) {
		x.Reads = append(x.Reads, api.Read{Key: k, Version: 1 + c.below(9), There: true})
	}
	for _, k := range c.keys(c.below(4)) {
		x.Writes = append(x.Writes, api.Write{Key: k, Val: strings.Repeat("w", c.below(17))})
	}
	return x
}

func TestLimits(t *testing.T) {
	if api.AskVote != 1 || api.Reads != 9 || api.MaxNodes != 5 || api.MaxParts != 3 || api.MaxShards != 3 || api.MaxSend != 4 ||
		api.MaxReads != 6 || api.MaxKey != 8 || api.MaxVal != 16 || api.OK != 0 || api.ENone != 6 {
		t.Fatal("these tests are for other limits")
	}
	for _, kind := range kinds {
		for f := range strings.SplitSeq(named[kind], ", ") {
			if !slices.Contains(fields(), f) {
				t.Errorf("no field %q", f)
			}
		}
	}
	for _, x := range []api.Msg{rich(), top(), little()} {
		for _, f := range fields() {
			if !slices.Contains(heads, f) && reflect.ValueOf(x).FieldByName(f).IsZero() {
				t.Errorf("%s has nothing: %+v", f, x)
			}
		}
	}
}
