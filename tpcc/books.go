package tpcc

import (
	"math"
	"slices"

	"hopper/api"
	"hopper/money"
	"hopper/table"
)

// books are the data as a call sees and changes them. What it changes is written at its end, all at once, or, if it is refused, not at all.
type books struct {
	data *table.Data
	rows map[place]*row // those that were read
	ops  []api.Op       // what is to be written
	code api.Errno      // the first refusal
}

// place says where a row is. Keys of one table are of one length, so that what is behind a shorter one tells nothing apart.
type place struct {
	table string
	key   [4]int64
}

// row has its values as the call has changed them.
type row struct {
	table   string
	values  []api.Value
	changed bool // its operation is among those of the books, and has the same values
}

// at answers a column's number: of a null it is 0, as none of its fields is another.
func (r *row) at(column int) int64 { return r.values[column].N }

// refuse keeps the first refusal. The call goes on, as nothing of what it comes to will be told or written.
func (b *books) refuse(e api.Errno) {
	if b.code == api.OK {
		b.code = e
	}
}

// read answers the row of a key, and the same one if it is read again, so that changes add up. If there is none, the call is refused, and goes on with nulls.
func (b *books) read(name string, key ...int64) *row {
	at := place{table: name}
	copy(at.key[:], key)
	if r, known := b.rows[at]; known {
		return r
	}
	r := &row{table: name}
	found := b.ask(api.Op{Kind: api.OGet, Table: name, Key: values(key...)})
	if len(found) > 0 {
		r.values = found[0]
	} else {
		r.values = make([]api.Value, api.MaxRow)
		b.refuse(missing(name))
	}
	b.rows[at] = r
	return r
}

func missing(name string) api.Errno {
	if name == item {
		return api.ErrItem
	}
	return api.ErrNone
}

// under answers the rows whose keys begin with these numbers, in their order, without what the call has changed.
func (b *books) under(name string, key ...int64) []*row {
	return b.firstUnder(api.MaxItems, name, key...)
}

// firstUnder answers the first of these rows, at most so many.
func (b *books) firstUnder(most int, name string, key ...int64) []*row {
	found := b.ask(api.Op{Kind: api.OScan, Table: name, Key: values(key...), To: values(behind(key)...), Limit: most})
	out := make([]*row, len(found))
	for at, list := range found {
		out[at] = &row{table: name, values: list}
	}
	return out
}

// behind answers the least beginning of a key that stands behind all keys that begin with key: none, if nothing does.
func behind(key []int64) []int64 {
	for at, n := range slices.Backward(key) {
		if n < math.MaxInt64 {
			return append(slices.Clone(key[:at]), n+1)
		}
	}
	return nil
}

// ask answers the rows of an operation that reads.
func (b *books) ask(op api.Op) [][]api.Value {
	results, _, _ := b.data.Apply([]api.Op{op})
	return results[0].Rows
}

func (b *books) set(r *row, column int, n int64) {
	r.values[column] = api.Value{Kind: api.VInt, N: n}
	if !r.changed {
		r.changed = true
		b.ops = append(b.ops, putOf(r.table, r.values))
	}
}

// raise refuses what is no amount then, as all numbers that are raised are to be amounts.
func (b *books) raise(r *row, column int, by int64) {
	b.set(r, column, b.amount(r.at(column)+by))
}

func (b *books) put(name string, numbers ...int64) {
	b.ops = append(b.ops, putOf(name, values(numbers...)))
}

func (b *books) remove(name string, key ...int64) {
	b.ops = append(b.ops, api.Op{Kind: api.ODelete, Table: name, Key: values(key...)})
}

// amount refuses a number that is none.
func (b *books) amount(n int64) int64 {
	if !isAmount(n) {
		b.refuse(api.ErrRange)
	}
	return n
}

func isAmount(n int64) bool {
	_, e := money.Sum([]int{int(n)})
	return e == api.OK
}

// part refuses as one whatever money does: an amount or a rate that is none, and a part.
func (b *books) part(a, rate int64) int64 {
	p, e := money.Part(int(a), int(rate))
	if e != api.OK {
		b.refuse(api.ErrRange)
	}
	return int64(p)
}

// write does all that was changed, and answers what the call came to. Only the call that adds rows can be refused here, and what it writes is one batch; of a call with more than that no operation is refused.
func (b *books) write() api.Errno {
	if b.code != api.OK {
		return b.code
	}
	for batch := range slices.Chunk(b.ops, api.MaxItems) {
		results, done, _ := b.data.Apply(batch)
		if !done {
			return results[len(results)-1].Code
		}
	}
	return api.OK
}
