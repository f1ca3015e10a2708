package build

import (
	"cmp"
	"maps"
	"slices"
	"strings"

	"hopper/api"
	"hopper/schema"
)

// change is what comes to the index by one row.
type change interface {
	// of answers the bytes of the row's key.
	of() string
}

// put is a row that is there, in the place of one of its key.
type put struct {
	key   string
	entry []api.Value
}

// gone is a row that is not there any more.
type gone struct {
	key string
}

func (c put) of() string { return c.key }

func (c gone) of() string { return c.key }

// job is what an open build knows. Of each key either a change waits, or its entry is up to date.
type job struct {
	table api.Table // without indexes
	// columns are those that an entry has: the index's, of which there are so many, and the key's behind them.
	columns []int
	many    int
	unique  bool
	// waiting has a change for each row of the beginning that was not scanned, by rising keys.
	waiting []change
	entries map[string][]api.Value
}

func newJob(t api.Table, x api.Index, rows [][]api.Value) *job {
	j := &job{table: ownTable(t), columns: slices.Clone(x.Columns), many: len(x.Columns), unique: x.Unique, entries: map[string][]api.Value{}}
	for at := range t.Key {
		j.columns = append(j.columns, at)
	}
	for _, row := range rows {
		j.waiting = append(j.waiting, put{encode(row[:t.Key]), j.entryOf(row)})
	}
	return j
}

// ownTable leaves out the indexes, as no row hangs on them. What a catalogue tells is nobody else's, so it may be kept.
func ownTable(t api.Table) api.Table {
	t.Indexes = nil
	c := schema.New()
	c.Create(t)
	own, _ := c.Find(t.Name)
	return own
}

// entryOf shares no memory with row, and no two of its texts do: one may stand in an entry twice.
func (j *job) entryOf(row []api.Value) []api.Value {
	entry := make([]api.Value, len(j.columns))
	for at, n := range j.columns {
		entry[at] = row[n]
		entry[at].S = strings.Clone(row[n].S)
	}
	return entry
}

func (j *job) changeOf(w api.Write) change {
	own := strings.Clone(w.Key)
	if w.Gone {
		return gone{own}
	}
	return put{own, j.entryOf(w.Row)}
}

// tell lets a change wait in the place of the one of its key, if that was not scanned yet: else the older row would come behind it.
func (j *job) tell(c change) {
	at, waits := slices.BinarySearchFunc(j.waiting, c.of(), func(other change, k string) int { return cmp.Compare(other.of(), k) })
	if waits {
		j.waiting[at] = c
		return
	}
	j.do(c)
}

func (j *job) scan(most int) {
	next := j.waiting[:min(most, len(j.waiting))]
	for _, c := range next {
		j.do(c)
	}
	j.waiting = j.waiting[len(next):]
	// What was done would be kept ahead of the list.
	clear(next)
}

func (j *job) do(c change) {
	switch c := c.(type) {
	case put:
		j.entries[c.key] = c.entry
	case gone:
		delete(j.entries, c.key)
	}
}

// index hands out the entries themselves: the job is over.
func (j *job) index() ([][]api.Value, api.Errno) {
	list := slices.SortedFunc(maps.Values(j.entries), j.order)
	if j.unique && j.clash(list) {
		return nil, api.ErrUnique
	}
	return list, api.OK
}

// order takes an entry in two parts, as it may have more values than a row.
func (j *job) order(a, b []api.Value) int {
	if c := compare(j.values(a), j.values(b)); c != 0 {
		return c
	}
	return compare(a[j.many:], b[j.many:])
}

// clash looks at neighbours alone: in order, entries of the same values stand side by side.
func (j *job) clash(list [][]api.Value) bool {
	for at := 1; at < len(list); at++ {
		values := j.values(list[at])
		if compare(j.values(list[at-1]), values) == 0 && !slices.ContainsFunc(values, isNull) {
			return true
		}
	}
	return false
}

// values are those of the index's columns.
func (j *job) values(entry []api.Value) []api.Value { return entry[:j.many] }

func isNull(v api.Value) bool { return v.Kind == api.VNull }
