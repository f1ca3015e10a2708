package recover

import (
	"cmp"
	"slices"

	"hopper/api"
	"hopper/key"
	"hopper/schema"
	"hopper/table"
)

// redo brings data to what they are behind all writes, which stand in their order.
func redo(data *table.Data, writes []api.Write) error {
	if !allFit(schemasOf(data), writes) {
		return mistake(api.ErrCorrupt)
	}
	last := lastWrites(writes)
	// All rows that are written over go ahead of the first that comes: only in the end two may not clash, nor be too many.
	for _, w := range last {
		takeAway(data, w)
	}
	for _, w := range last {
		if err := putBack(data, w); err != nil {
			return err
		}
	}
	return nil
}

func schemasOf(data *table.Data) map[string]api.Table {
	schemas := map[string]api.Table{}
	for _, name := range data.Tables() {
		schemas[name], _ = data.Schema(name)
	}
	return schemas
}

// allFit looks at those writes, too, that others of the same key come behind.
func allFit(schemas map[string]api.Table, writes []api.Write) bool {
	for _, w := range writes {
		t, there := schemas[w.Table]
		if !there || !fits(t, w) {
			return false
		}
	}
	return true
}

func fits(t api.Table, w api.Write) bool {
	if !isKeyOf(t, w.Key) {
		return false
	}
	return w.Gone || schema.Fits(t, w.Row) == api.OK && hasKey(w.Row[:t.Key], w.Key)
}

// isKeyOf tells whether bytes are a key of the table's. No column is of the kind null, so no null is taken for a value of one.
func isKeyOf(t api.Table, k string) bool {
	values, f := key.Decode(k)
	if f.Code != api.OK || len(values) != t.Key {
		return false
	}
	for at, v := range values {
		if v.Kind != t.Columns[at].Kind {
			return false
		}
	}
	return true
}

func hasKey(values []api.Value, k string) bool {
	own, e := key.Encode(values)
	return e == api.OK && own == k
}

// lastWrites answers of each key its last write alone, by tables' names, then by keys.
func lastWrites(writes []api.Write) []api.Write {
	sorted := slices.Clone(writes)
	// Stable: those of one key stay in their order.
	slices.SortStableFunc(sorted, byKey)
	var last []api.Write
	for at, w := range sorted {
		if at+1 == len(sorted) || byKey(w, sorted[at+1]) != 0 {
			last = append(last, w)
		}
	}
	return last
}

func byKey(a, b api.Write) int {
	return cmp.Or(cmp.Compare(a.Table, b.Table), cmp.Compare(a.Key, b.Key))
}

// takeAway takes the row of a write's key, if it is there. A key that fits is not refused.
func takeAway(data *table.Data, w api.Write) {
	values, _ := key.Decode(w.Key)
	data.Apply([]api.Op{{Kind: api.ODelete, Table: w.Table, Key: values}})
}

// putBack takes what data refuse for a mistake of the disk: a row that clashes, or is one too many.
func putBack(data *table.Data, w api.Write) error {
	if w.Gone {
		return nil
	}
	if _, done, _ := data.Apply([]api.Op{{Kind: api.OInsert, Table: w.Table, Row: w.Row}}); !done {
		return mistake(api.ErrCorrupt)
	}
	return nil
}
