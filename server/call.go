package server

import (
	"slices"

	"hopper/api"
	"hopper/table"
	"hopper/tpcc"
	"hopper/value"
)

// call does one of the books' calls on the rows as they are now, and lets the store write what it has changed.
func (s *Server) call(w int, asks call) (api.Result, bool) {
	data, _ := s.store.AsOf(s.store.Epoch())
	was := booksOf(data)
	result, done := tpcc.Call(data, asks.name, asks.args)
	if !done {
		return result, false
	}
	ahead := s.store.Steps()
	written := writeAlone(s.store, w, changes(was, booksOf(data)))
	s.silent += s.store.Steps() - ahead
	s.logWritten(w)
	if !written {
		return api.Result{Code: api.ErrLong}, false
	}
	return result, true
}

// book is one of the tables of the books, with its rows in order.
type book struct {
	name string
	key  int
	rows [][]api.Value
}

func booksOf(data *table.Data) []book {
	var list []book
	for _, t := range tpcc.Tables() {
		rows, _ := data.Rows(t.Name)
		list = append(list, book{t.Name, t.Key, rows})
	}
	return list
}

// changes answers the operations by which the books become what they are out of what they were. In each book rows go ahead of those that come, so that it has never more than in the end.
func changes(was, are []book) []api.Op {
	var ops []api.Op
	for at, old := range was {
		now := are[at]
		for _, row := range old.rows {
			if now.find(row) == nil {
				ops = append(ops, api.Op{Kind: api.ODelete, Table: old.name, Key: row[:old.key]})
			}
		}
		for _, row := range now.rows {
			if !same(old.find(row), row) {
				ops = append(ops, api.Op{Kind: api.OPut, Table: now.name, Row: row})
			}
		}
	}
	return ops
}

// find answers the row that has the key of this one, or nil.
func (b book) find(row []api.Value) []api.Value {
	at, found := slices.BinarySearchFunc(b.rows, row[:b.key], func(x, key []api.Value) int {
		// Rows of tables, and beginnings of them, may be: there is no error.
		order, _ := value.Compare(x[:b.key], key)
		return order
	})
	if !found {
		return nil
	}
	return b.rows[at]
}

func same(a, b []api.Value) bool {
	order, _ := value.Compare(a, b)
	return order == 0
}
