package occ

import (
	"testing"

	"hopper/api"
)

// What a store keeps is no more than its promises need. That is seen from within alone.

func num(n int64) api.Value { return api.Value{Kind: api.VInt, N: n} }

func numbers() api.Table {
	return api.Table{Name: "t", Columns: []api.Column{{Name: "a", Kind: api.VInt}, {Name: "b", Kind: api.VInt}}, Key: 1, Indexes: []api.Index{{Name: "i", Columns: []int{1}}, {Name: "u", Columns: []int{1}, Unique: true}}}
}

func put(k, n int64) api.Op {
	return api.Op{Kind: api.OPut, Table: "t", Row: []api.Value{num(k), num(n)}}
}

func get(k int64) api.Op { return api.Op{Kind: api.OGet, Table: "t", Key: []api.Value{num(k)}} }

func find(n int64) api.Op {
	return api.Op{Kind: api.OFind, Table: "t", Index: "i", Key: []api.Value{num(n)}, Limit: 9}
}

func newTestStore(t *testing.T) *Store {
	t.Helper()
	s, e := New(2)
	if e != api.OK || s.Create(numbers()) != api.OK {
		t.Fatal(e)
	}
	return s
}

func (s *Store) end(w int) api.Outcome {
	for {
		if done, o, _ := s.Step(w); done {
			return o
		}
	}
}

func (s *Store) do(ops ...api.Op) api.Outcome {
	s.Begin(0, ops)
	return s.end(0)
}

// holds holds how many records a table has, how many values its indexes, and how many tables past epochs show.
func (s *Store) holds(t *testing.T, records, values, lives int) {
	t.Helper()
	h := s.homes["t"]
	if len(h.records) != records || h.rows.Len() != records || h.full != records || len(s.lives) != lives {
		t.Errorf("%d records, %d keys, %d that were written, %d tables, not %d and %d", len(h.records), h.rows.Len(), h.full, len(s.lives), records, lives)
	}
	for _, x := range h.indexes {
		if len(x.shelves) != values {
			t.Errorf("%d values in an index, not %d", len(x.shelves), values)
		}
		for _, y := range x.shelves {
			if y.users != 0 || y.Len() == 0 {
				t.Errorf("%d keys, held %d times", y.Len(), y.users)
			}
		}
	}
}

func TestValuesThatAreNoRowsAreNotKept(t *testing.T) {
	s := newTestStore(t)
	for n := range int64(50) {
		s.do(put(1, n), find(n+100), put(2, n+1000))
		s.do(put(1, n), api.Op{})
		s.do(find(n + 5000))
		s.do(put(9, n), put(8, n))
	}
	s.holds(t, 2, 2, 1)
	s.do(api.Op{Kind: api.ODelete, Table: "t", Key: []api.Value{num(1)}})
	s.holds(t, 2, 1, 1)
}

func TestAbortedAreNotKept(t *testing.T) {
	s := newTestStore(t)
	s.do(put(1, 1))
	for n := range int64(20) {
		s.Begin(1, []api.Op{get(1), put(100+n, 100+n), put(200+n, 200+n), find(1)})
		s.Step(1)
		s.Step(1)
		s.Step(1)
		s.do(put(1, n))
		if o := s.end(1); o.Step != 0 {
			t.Fatal("it was not aborted")
		}
		s.holds(t, 1, 1, 1)
	}
}

// Of each epoch one version of a row at most: the last one.
func TestVersionsOfOneEpoch(t *testing.T) {
	s := newTestStore(t)
	for epoch := 1; epoch < 6; epoch++ {
		for n := range int64(7) {
			s.do(put(1, n))
		}
		if list := s.homes["t"].records[0].Versions(); len(list) != epoch {
			t.Errorf("%d versions at the epoch %d", len(list), epoch)
		}
		s.Advance()
	}
}

func TestTablesThatNobodySeesAreNotKept(t *testing.T) {
	s := newTestStore(t)
	for range 9 {
		s.do(put(1, 1))
		s.Drop("t")
		s.Create(numbers())
		s.holds(t, 0, 0, 1)
	}
	s.Advance()
	s.do(put(1, 1))
	s.Drop("t")
	if len(s.lives) != 1 || s.lives[0].indexes != nil {
		t.Error("an index of a table that was dropped is kept")
	}
	s.Create(numbers())
	s.holds(t, 0, 0, 2)
}
