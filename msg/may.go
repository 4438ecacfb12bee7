package msg

import (
	"diwan/api"
	"diwan/txn"
)

const (
	greatest = 1 << 40 // the most that a number may be
	maxGot   = 64      // reads of one letter
)

// mayHead tells whether what each Kind has may be.
func mayHead(m api.Msg) bool {
	return within(m.Kind, api.AskVote, api.Reads) && within(m.Part, 0, api.MaxParts-1) &&
		within(m.From, 1, api.MaxNodes) && within(m.To, 1, api.MaxNodes) && m.From != m.To
}

// mayBody tells whether each field may be, whether m's Kind names it or not.
func mayBody(m api.Msg) bool {
	return mayNumbers(m) && m.Shard < api.MaxShards && m.Err <= api.ENone &&
		len(m.Entries) <= api.MaxSend && each(m.Entries, mayEntry) &&
		(m.Kind != api.Submit || txn.May(m.T)) &&
		len(m.FromKey) <= api.MaxKey && len(m.ToKey) <= api.MaxKey &&
		len(m.Keys) <= api.MaxReads && rising(m.Keys) &&
		len(m.Got) <= maxGot && each(m.Got, mayRead) && rising(keysOf(m.Got))
}

func mayNumbers(m api.Msg) bool {
	for _, v := range numbers(m) {
		if !mayNumber(v) {
			return false
		}
	}
	return true
}

func mayNumber(v int) bool {
	return within(v, 0, greatest)
}

func mayEntry(e api.Entry) bool {
	if e.Seal {
		return mayNumber(e.Term) && txn.Same(e.T, api.Txn{})
	}
	return mayNumber(e.Term) && txn.May(e.T)
}

// mayRead tells whether r may be, whatever its key is.
func mayRead(r api.Read) bool {
	return mayNumber(r.Version) && len(r.Val) <= api.MaxVal
}

// rising tells whether all of l may be keys, each above the one ahead.
func rising(l []string) bool {
	for i, k := range l {
		if !mayKey(k) || i > 0 && k <= l[i-1] {
			return false
		}
	}
	return true
}

// mayKey tells whether k may be a key: that is for txn to say, of what is read.
func mayKey(k string) bool {
	return txn.May(api.Txn{Session: 1, Seq: 1, Reads: []api.Read{{Key: k}}})
}

func keysOf(l []api.Read) []string {
	var all []string
	for _, r := range l {
		all = append(all, r.Key)
	}
	return all
}

// within tells whether v is from least to most.
func within(v, least, most int) bool {
	return least <= v && v <= most
}

// each tells whether may says yes of each of l.
func each[T any](l []T, may func(T) bool) bool {
	for _, x := range l {
		if !may(x) {
			return false
		}
	}
	return true
}
