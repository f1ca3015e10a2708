package table

import (
	"slices"
	"sort"

	"hopper/api"
	"hopper/value"
)

// list has a table's rows in the order of their values in some columns. The key is among these, so no two rows have the same values there.
type list struct {
	columns []int
	rows    [][]api.Value // none of them is ever written over: the same ones stand in other lists
}

// place is that of the first row that is not below values (of the list's first columns): those that begin with them are not, as they stand behind them.
func (l *list) place(values []api.Value) int {
	return sort.Search(len(l.rows), func(at int) bool { return l.against(l.rows[at], values) >= 0 })
}

// beginWith answers the first rows, at most so many, that have these values in the list's first columns.
func (l *list) beginWith(values []api.Value, most int) [][]api.Value {
	from := l.place(values)
	to := from
	for to < len(l.rows) && to-from < most && l.against(l.rows[to], values) == 0 {
		to++
	}
	return l.rows[from:to]
}

// against is 0, if a row begins with values, else 1 or -1, as it stands behind or ahead of them.
func (l *list) against(row, values []api.Value) int {
	for at, v := range values {
		if c := compare(row[l.columns[at]], v); c != 0 {
			return c
		}
	}
	return 0
}

// swap takes was out, which is there, and puts now in, which is not; nil is none.
func (l *list) swap(was, now []api.Value) {
	if was != nil {
		at := l.place(pick(was, l.columns))
		l.rows = slices.Delete(l.rows, at, at+1)
	}
	if now != nil {
		at := l.place(pick(now, l.columns))
		l.rows = slices.Insert(l.rows, at, now)
	}
}

// entries are the values of all rows in the list's columns.
func (l *list) entries() [][]api.Value {
	out := make([][]api.Value, len(l.rows))
	for at, row := range l.rows {
		out[at] = pick(row, l.columns)
	}
	return out
}

// pick answers a row's values in columns.
func pick(row []api.Value, columns []int) []api.Value {
	out := make([]api.Value, len(columns))
	for at, n := range columns {
		out[at] = row[n]
	}
	return out
}

// compare takes value by value, since an index has more of them than a row may have. Values that are kept or fit are not refused.
func compare(a, b api.Value) int {
	c, _ := value.Compare([]api.Value{a}, []api.Value{b})
	return c
}
