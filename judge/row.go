package judge

import (
	"slices"

	"diwan/api"
	"diwan/seat"
	"diwan/store"
)

// row is transactions that were judged: what was said of each, and the keys and the seats that there are behind them.
type row struct {
	said  []int
	keys  api.Store
	seats []api.Seat
}

// judge puts t behind those that were judged.
func (r *row) judge(t api.Txn) {
	r.said = append(r.said, r.verdict(t, len(r.said)+1))
}

// verdict tells what is said of t at position pos, and brings the keys and the seats behind it.
func (r *row) verdict(t api.Txn, pos int) int {
	var ok bool
	r.seats, ok = seat.Turn(r.seats, t.Session, t.Seq, pos)
	if !ok {
		return api.Twice
	}
	if slices.ContainsFunc(t.Reads, r.stale) {
		return api.No
	}
	r.keys = store.Write(r.keys, pos, t.Writes)
	return api.Yes
}

// stale tells whether what x read is not what its key was last.
func (r *row) stale(x api.Read) bool {
	return x.Version != store.Last(r.keys, x.Key)
}
