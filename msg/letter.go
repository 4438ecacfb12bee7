package msg

import "diwan/api"

// hand goes through a letter, one thing behind the other: it writes, reads, or rubs out.
type hand interface {
	number(v *int)
	flag(yes *bool)
	text(s *string)
	txn(t *api.Txn)
	// size tells how many a list of n, that may have most, has from now on.
	size(n, most int) int
}

// letter hands its fields, one by one, to a hand: so all hands go through it in the same order.
type letter api.Msg

type field = func(*letter, hand)

// named tells the fields that a Kind names.
func named(kind int) []field {
	switch kind {
	case api.AskVote:
		return []field{(*letter).term, (*letter).index, (*letter).logTerm}
	case api.Vote:
		return []field{(*letter).term, (*letter).ok}
	case api.Append:
		return []field{(*letter).term, (*letter).index, (*letter).logTerm, (*letter).commit, (*letter).entries}
	case api.Appended:
		return []field{(*letter).term, (*letter).ok, (*letter).index}
	case api.Submit:
		return []field{(*letter).t}
	case api.AskBit:
		return []field{(*letter).pos, (*letter).shard}
	case api.Bit:
		return []field{(*letter).pos, (*letter).shard, (*letter).ok}
	case api.AskRead:
		return []field{
			(*letter).session, (*letter).seq, (*letter).pos, (*letter).shard,
			(*letter).span, (*letter).fromKey, (*letter).toKey, (*letter).keys,
		}
	case api.Reads:
		return append(named(api.AskRead), (*letter).err, (*letter).got)
	}
	return nil
}

// head hands over what each Kind has.
func (l *letter) head(h hand) {
	h.number(&l.Kind)
	h.number(&l.From)
	h.number(&l.To)
	h.number(&l.Part)
}

// body hands over what l's Kind names.
func (l *letter) body(h hand) {
	for _, f := range named(l.Kind) {
		f(l, h)
	}
}

func (l *letter) term(h hand)    { h.number(&l.Term) }
func (l *letter) index(h hand)   { h.number(&l.Index) }
func (l *letter) logTerm(h hand) { h.number(&l.LogTerm) }
func (l *letter) commit(h hand)  { h.number(&l.Commit) }
func (l *letter) ok(h hand)      { h.flag(&l.OK) }
func (l *letter) entries(h hand) { list(h, &l.Entries, api.MaxSend, entry) }
func (l *letter) t(h hand)       { h.txn(&l.T) }
func (l *letter) session(h hand) { h.number(&l.Session) }
func (l *letter) seq(h hand)     { h.number(&l.Seq) }
func (l *letter) pos(h hand)     { h.number(&l.Pos) }
func (l *letter) shard(h hand)   { h.number(&l.Shard) }
func (l *letter) span(h hand)    { h.flag(&l.Span) }
func (l *letter) fromKey(h hand) { h.text(&l.FromKey) }
func (l *letter) toKey(h hand)   { h.text(&l.ToKey) }
func (l *letter) keys(h hand)    { list(h, &l.Keys, api.MaxReads, hand.text) }
func (l *letter) got(h hand)     { list(h, &l.Got, maxGot, read) }

func (l *letter) err(h hand) {
	v := int(l.Err)
	h.number(&v)
	l.Err = api.Errno(v)
}

// list hands over how many l are, and each by one.
func list[T any](h hand, l *[]T, most int, one func(hand, *T)) {
	// A hand that rubs out, or reads, gets a list of its own: what was handed in is not written to.
	if n := h.size(len(*l), most); n != len(*l) {
		*l = make([]T, n)
	}
	for i := range *l {
		one(h, &(*l)[i])
	}
}

func entry(h hand, e *api.Entry) {
	h.number(&e.Term)
	h.flag(&e.Seal)
	if !e.Seal {
		h.txn(&e.T)
	}
}

func read(h hand, r *api.Read) {
	h.text(&r.Key)
	h.number(&r.Version)
	h.text(&r.Val)
	h.flag(&r.There)
}
