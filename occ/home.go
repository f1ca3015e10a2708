package occ

import (
	"slices"
	"strings"

	"hopper/api"
	"hopper/key"
	"hopper/record"
	"hopper/tree"
)

// home is where a table's rows are: a record for each key that ever had one. They stay, since past epochs show what they were.
type home struct {
	schema  api.Table
	from    int // the epoch at which the table was created
	until   int // the one at which it was dropped, or never
	rows    *shelf
	indexes []*index
	records map[int]*record.Record // by their numbers, which the trees have as values
	made    int                    // how many records there were: no number is given twice
	full    int                    // how many of them have ever been written by one that was committed
}

// never stands where a table that was dropped has an epoch, which is not below 1.
const never = 0

// shelf is a tree of rows' keys with their records' numbers.
type shelf struct {
	*tree.Tree
	left  int // how many keys were taken out of it by transactions that were committed
	users int // of an index's one: how often transactions that work hold it
}

// index has a shelf for each list of values of its columns: the keys of the rows that have them. So one looks for values of any length, and values that are unlike are in nobody's way.
type index struct {
	at      int // its place in the schema
	columns []int
	unique  bool
	shelves map[string]*shelf // by the values' bytes; none is without keys, unless one holds it
}

func newHome(own api.Table, epoch int) *home {
	h := &home{schema: own, from: epoch, until: never, rows: newShelf(), records: map[int]*record.Record{}}
	for at, x := range own.Indexes {
		h.indexes = append(h.indexes, &index{at: at, columns: x.Columns, unique: x.Unique, shelves: map[string]*shelf{}})
	}
	return h
}

func newShelf() *shelf { return &shelf{Tree: tree.New()} }

// close leaves what past epochs show: the rows.
func (h *home) close(epoch int) {
	h.until = epoch
	h.indexes = nil
}

// isEverSeen is false of a table that was created and dropped within one epoch.
func (h *home) isEverSeen() bool { return h.from != h.until }

// isThereAt tells whether the table is among those behind all of an epoch.
func (h *home) isThereAt(epoch int) bool {
	return h.from <= epoch && (h.until == never || h.until > epoch)
}

// hasRoom tells whether there can be a record for one key more.
func (h *home) hasRoom(rowKey string) bool {
	return len(rowKey) <= api.MaxText && h.full < api.MaxItems
}

// add makes a record for a key that has none. It has no row, and is locked: nobody else reads it until it has one.
func (h *home) add(rowKey string) (*record.Record, int, bool) {
	if _, _, e := h.rows.Put(rowKey, h.made); e != api.OK {
		return nil, 0, false
	}
	r, _ := record.New(0, nil, true)
	r.Lock()
	number := h.made
	h.made++
	h.records[number] = r
	return r, number, true
}

// remove takes a record away that was never written.
func (h *home) remove(rowKey string) {
	number, _ := h.rows.Take(rowKey)
	delete(h.records, number)
}

func (h *home) keyOf(row []api.Value) string { return bytesOf(row[:h.schema.Key]) }

// entry answers the bytes of a row's values in the index's columns; none, if there is no row. (Of a row they are never none: an index has a column at least.)
func (x *index) entry(row []api.Value) string {
	if row == nil {
		return ""
	}
	return bytesOf(pick(row, x.columns))
}

// mayClash tells whether another row with the same values would clash with this one.
func (x *index) mayClash(row []api.Value) bool {
	return x.unique && !slices.ContainsFunc(pick(row, x.columns), isNull)
}

// hold answers the shelf of values, which stays until it is let go as often as it was held.
func (x *index) hold(values string) *shelf {
	s, there := x.shelves[values]
	if !there {
		s = newShelf()
		x.shelves[values] = s
	}
	s.users++
	return s
}

func (x *index) letGo(values string) {
	s := x.shelves[values]
	s.users--
	if s.users == 0 && s.Len() == 0 {
		delete(x.shelves, values)
	}
}

// bytesOf answers the key of values that fit, by chapter 5: value by value, since those of an index may have more bytes than a row's key.
func bytesOf(values []api.Value) string {
	var out strings.Builder
	for at := range values {
		k, _ := key.Encode(values[at : at+1])
		out.WriteString(k)
	}
	return out.String()
}

// pick answers a row's values in columns.
func pick(row []api.Value, columns []int) []api.Value {
	out := make([]api.Value, len(columns))
	for at, n := range columns {
		out[at] = row[n]
	}
	return out
}

func isNull(v api.Value) bool { return v.Kind == api.VNull }
