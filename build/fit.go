package build

import (
	"slices"
	"strings"

	"hopper/api"
	"hopper/key"
	"hopper/schema"
	"hopper/value"
)

// textEnd stands behind a text in a key, and nowhere inside of one.
const textEnd = "\x00\x01"

func checkIndex(t api.Table, x api.Index) api.Errno {
	if e := schema.Check(t); e != api.OK {
		return e
	}
	if slices.ContainsFunc(t.Indexes, func(other api.Index) bool { return other.Name == x.Name }) {
		return api.ErrThere
	}
	// Not by append: spare room of the schema's list is not ours.
	t.Indexes = slices.Concat(t.Indexes, []api.Index{x})
	return schema.Check(t)
}

func checkRows(t api.Table, rows [][]api.Value) api.Errno {
	if len(rows) > api.MaxItems {
		return api.ErrLong
	}
	for at, row := range rows {
		if schema.Fits(t, row) != api.OK {
			return api.ErrRow
		}
		if at > 0 && compare(rows[at-1][:t.Key], row[:t.Key]) >= 0 {
			return api.ErrRow
		}
	}
	return api.OK
}

// fits looks at the Row only of a write that is not Gone; a row that fits has a key of the table's.
func fits(t api.Table, w api.Write) bool {
	if w.Table != t.Name {
		return false
	}
	if w.Gone {
		return isKeyOf(t, w.Key)
	}
	return schema.Fits(t, w.Row) == api.OK && encode(w.Row[:t.Key]) == w.Key
}

// isKeyOf tells whether bytes are a key of the table's. No column is of the kind null, so no null is taken for a value of one.
func isKeyOf(t api.Table, k string) bool {
	values, ok := decode(k)
	if !ok || len(values) != t.Key {
		return false
	}
	for at, v := range values {
		if v.Kind != t.Columns[at].Kind {
			return false
		}
	}
	return true
}

// encode goes value by value: the greatest rows have a key, too, but of more bytes than layer 5 writes at once.
func encode(values []api.Value) string {
	var out strings.Builder
	for at := range values {
		// Of one value that may be nothing is refused.
		one, _ := key.Encode(values[at : at+1])
		out.WriteString(one)
	}
	return out.String()
}

// decode takes a key of more bytes than layer 5 reads at once in two pieces. It is so long only if all of its values are texts, so the first piece ends with the first text.
func decode(k string) ([]api.Value, bool) {
	first := 0
	if len(k) > api.MaxBytes {
		first = strings.Index(k, textEnd) + len(textEnd)
	}
	head, f := key.Decode(k[:first])
	if f.Code != api.OK {
		return nil, false
	}
	rest, f := key.Decode(k[first:])
	if f.Code != api.OK {
		return nil, false
	}
	return slices.Concat(head, rest), true
}

// compare is the order of rows that may be.
func compare(a, b []api.Value) int {
	c, _ := value.Compare(a, b)
	return c
}
