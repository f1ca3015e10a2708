package occ

import (
	"cmp"
	"slices"
	"strings"

	"hopper/api"
	"hopper/table"
)

// logged is an entry and its transaction's place in the order.
type logged struct {
	step  int
	entry api.Entry
}

func (s *Store) AsOf(epoch int) (*table.Data, api.Errno) {
	last := s.clock.Snapshot()
	if s.Working() == 0 {
		last = s.clock.Global()
	}
	if epoch < 0 || epoch > last {
		return nil, api.ErrRange
	}
	d := table.New()
	for _, h := range s.lives {
		if h.isThereAt(epoch) {
			d.Create(h.schema)
			d.Apply(h.rowsAt(epoch))
		}
	}
	return d, api.OK
}

// rowsAt answers the operations that put all rows of an epoch in.
func (h *home) rowsAt(epoch int) []api.Op {
	var ops []api.Op
	_, numbers, _, _ := h.rows.Scan("", "", api.MaxItems)
	for _, number := range numbers {
		row, there, _ := h.records[number].At(epoch)
		if there {
			ops = append(ops, api.Op{Kind: api.OPut, Table: h.schema.Name, Row: row})
		}
	}
	return ops
}

func (s *Store) Entries() []api.Entry {
	slices.SortFunc(s.logged, func(a, b logged) int { return cmp.Compare(a.step, b.step) })
	list := make([]api.Entry, len(s.logged))
	for at, x := range s.logged {
		list[at] = x.entry
	}
	s.logged = nil
	return list
}

// log keeps what a transaction has written until it is told. Nobody else has the rows.
func (s *Store) log(t *transaction) {
	writes := make([]api.Write, len(t.writes))
	for at, c := range t.writes {
		writes[at] = api.Write{Table: strings.Clone(c.home.schema.Name), Key: strings.Clone(c.key), Gone: c.now == nil, Row: c.now}
	}
	s.logged = append(s.logged, logged{t.step, api.Entry{Tid: t.tid, Writes: writes}})
}
