package merge

import "diwan/api"

// place tells where entry i of a log stands, and its transaction in memory of its own.
func place(logs [][]api.Entry, part, i int) api.Place {
	t := logs[part][i-1].T
	t.Reads = append([]api.Read(nil), t.Reads...)
	t.Writes = append([]api.Write(nil), t.Writes...)
	return api.Place{Part: part, Index: i, T: t}
}
