package server

import (
	"slices"

	"hopper/api"
	"hopper/occ"
	"hopper/table"
)

// atFirst is the epoch of a store in which all that it begins with is put. Its snapshot epoch is this one when the server begins.
const atFirst = 1

// storeOf answers a store that has the data as of its snapshot epoch, or false, if there are rows that it has no room for.
func storeOf(data *table.Data, workers int) (*occ.Store, bool) {
	// There may be so many workers: the log that was opened has as many.
	s, _ := occ.New(workers)
	for _, name := range data.Tables() {
		if !putIn(s, data, name) {
			return nil, false
		}
	}
	// What was put in lasts already: no log is to have it.
	s.Entries()
	for s.Snapshot() < atFirst {
		s.Advance()
	}
	return s, true
}

// putIn creates a table, with its rows.
func putIn(s *occ.Store, data *table.Data, name string) bool {
	schema, _ := data.Schema(name)
	s.Create(schema)
	rows, _ := data.Rows(name)
	ops := make([]api.Op, len(rows))
	for at, row := range rows {
		ops[at] = api.Op{Kind: api.OPut, Table: name, Row: row}
	}
	return writeAlone(s, 0, ops)
}

// writeAlone does at once what writes rows that may be, while nobody is at a transaction. Only a store that has no room for them does not commit them then.
func writeAlone(s *occ.Store, w int, ops []api.Op) bool {
	for some := range slices.Chunk(ops, api.MaxItems) {
		s.Begin(w, some)
		if !finish(s, w) {
			return false
		}
	}
	return true
}

// finish takes all steps of a worker's transaction, and tells whether it was committed.
func finish(s *occ.Store, w int) bool {
	for {
		if done, o, _ := s.Step(w); done {
			return o.Committed
		}
	}
}
