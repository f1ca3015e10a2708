package table

import (
	"slices"

	"hopper/api"
	"hopper/schema"
	"hopper/value"
)

// effect is what an operation comes to: its Code, its Rows as they are kept, and the row that goes and the one that comes; nil is none.
type effect struct {
	code     api.Errno
	told     [][]api.Value
	was, now []api.Value
}

func refused(code api.Errno) effect { return effect{code: code} }

// deed looks at a table and says what an operation comes to there. It changes nothing, so that all changes are made, and unmade, in one place.
type deed func(t *table, op api.Op) effect

// deedOf answers nil, if no operation is of that kind.
func deedOf(kind int) deed {
	deeds := []deed{
		api.OGet:    (*table).get,
		api.OPut:    (*table).put,
		api.OInsert: (*table).insert,
		api.ODelete: (*table).remove,
		api.OScan:   (*table).scan,
		api.OFind:   (*table).find,
		api.OAdd:    (*table).add,
	}
	if kind < 0 || kind >= len(deeds) {
		return nil
	}
	return deeds[kind]
}

func (t *table) get(op api.Op) effect {
	if !t.isKey(op.Key) {
		return refused(api.ErrRow)
	}
	return effect{told: t.rows.beginWith(op.Key, 1)}
}

func (t *table) put(op api.Op) effect {
	if schema.Fits(t.schema, op.Row) != api.OK {
		return refused(api.ErrRow)
	}
	return t.write(op.Row)
}

func (t *table) insert(op api.Op) effect {
	if schema.Fits(t.schema, op.Row) != api.OK {
		return refused(api.ErrRow)
	}
	if t.rowOf(t.keyOf(op.Row)) != nil {
		return refused(api.ErrThere)
	}
	return t.write(op.Row)
}

func (t *table) remove(op api.Op) effect {
	x := t.get(op)
	if len(x.told) > 0 {
		x.was = x.told[0]
	}
	return x
}

func (t *table) scan(op api.Op) effect {
	if !t.beginsKey(op.Key) || !t.beginsKey(op.To) {
		return refused(api.ErrRow)
	}
	if !limitMayBe(op.Limit) {
		return refused(api.ErrRange)
	}
	from, to := t.rows.place(op.Key), len(t.rows.rows)
	if len(op.To) > 0 {
		to = t.rows.place(op.To)
	}
	// To may stand ahead of Key.
	to = max(from, min(to, from+op.Limit))
	return effect{told: t.rows.rows[from:to]}
}

func (t *table) find(op api.Op) effect {
	at := t.indexAt(op.Index)
	if at < 0 {
		return refused(api.ErrNone)
	}
	if !t.fitIndex(op.Key, t.schema.Indexes[at]) {
		return refused(api.ErrRow)
	}
	if !limitMayBe(op.Limit) {
		return refused(api.ErrRange)
	}
	// Rows that are the same by the Columns stand by their keys in the index, too.
	return effect{told: t.indexes[at].beginWith(op.Key, op.Limit)}
}

func (t *table) add(op api.Op) effect {
	if !t.isKey(op.Key) || !t.mayRise(op.At) {
		return refused(api.ErrRow)
	}
	was := t.rowOf(op.Key)
	if was == nil {
		return refused(api.ErrNone)
	}
	if was[op.At].Kind == api.VNull {
		return refused(api.ErrRow)
	}
	sum, e := value.Add(was[op.At], api.Value{Kind: api.VInt, N: op.N})
	if e != api.OK {
		return refused(e)
	}
	now := slices.Clone(was)
	now[op.At] = sum
	x := t.write(now)
	if x.code == api.OK {
		x.told = [][]api.Value{x.now}
	}
	return x
}

// write puts a copy of a row that fits in the place of the one of its key.
func (t *table) write(row []api.Value) effect {
	if t.clashes(row) {
		return refused(api.ErrUnique)
	}
	was := t.rowOf(t.keyOf(row))
	if was == nil && len(t.rows.rows) >= api.MaxItems {
		return refused(api.ErrLong)
	}
	return effect{was: was, now: copyRow(row)}
}

// clashes tells whether a row does with one of another key.
func (t *table) clashes(row []api.Value) bool {
	for at, x := range t.schema.Indexes {
		if x.Unique && t.clashesBy(at, row) {
			return true
		}
	}
	return false
}

// clashesBy looks at one row alone: of those that are there no two clash, so one at most has the same values.
func (t *table) clashesBy(at int, row []api.Value) bool {
	values := pick(row, t.schema.Indexes[at].Columns)
	if slices.ContainsFunc(values, isNull) {
		return false
	}
	same := t.indexes[at].beginWith(values, 1)
	return len(same) > 0 && t.rows.against(same[0], t.keyOf(row)) != 0
}

func (t *table) keyOf(row []api.Value) []api.Value { return row[:t.schema.Key] }

// rowOf answers the row of a key that fits, or nil.
func (t *table) rowOf(key []api.Value) []api.Value {
	rows := t.rows.beginWith(key, 1)
	if len(rows) == 0 {
		return nil
	}
	return rows[0]
}

func (t *table) isKey(values []api.Value) bool {
	return len(values) == t.schema.Key && t.beginsKey(values)
}

// beginsKey tells whether values are a beginning of a key.
func (t *table) beginsKey(values []api.Value) bool {
	return len(values) <= t.schema.Key && t.areOf(values, t.rows.columns) && !slices.ContainsFunc(values, isNull)
}

func (t *table) fitIndex(values []api.Value, x api.Index) bool {
	return len(values) == len(x.Columns) && t.areOf(values, x.Columns)
}

// areOf tells whether values, no more than columns, may be, and each is null or of its column's Kind.
func (t *table) areOf(values []api.Value, columns []int) bool {
	if _, e := value.Check(values); e != api.OK {
		return false
	}
	for at, v := range values {
		if !isNull(v) && v.Kind != t.schema.Columns[columns[at]].Kind {
			return false
		}
	}
	return true
}

// mayRise tells whether a number is that of a column of whole numbers behind the key.
func (t *table) mayRise(at int) bool {
	return at >= t.schema.Key && at < len(t.schema.Columns) && t.schema.Columns[at].Kind == api.VInt
}

func isNull(v api.Value) bool { return v.Kind == api.VNull }

func limitMayBe(limit int) bool { return limit >= 1 && limit <= api.MaxItems }
