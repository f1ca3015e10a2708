package occ

import (
	"cmp"
	"slices"

	"hopper/api"
	"hopper/key"
	"hopper/tid"
)

// entry is a key that comes into a shelf of an index, or goes out of it, because a row is written.
type entry struct {
	cell   *cell
	index  *index
	values string
	shelf  *shelf
	clash  bool // another row's key there would be one of a row that clashes
}

type spot struct {
	shelf *shelf
	key   string
}

// plan says, when all operations were done, what is to be written.
func (t *transaction) plan() {
	for _, c := range t.cells {
		if c.written {
			t.writes = append(t.writes, c)
		}
	}
	slices.SortFunc(t.writes, orderOfCells)
	for _, c := range t.writes {
		c.now = t.rowOf(c)
		t.planEntries(c)
	}
	// One order for all, so that of two that meet one goes on.
	slices.SortFunc(t.fresh, orderOfEntries)
	t.next = t.fix
	if len(t.writes) > 0 {
		t.next = t.take
	}
}

// rowOf answers a cell's row in the view, or nil.
func (t *transaction) rowOf(c *cell) []api.Value {
	values, _ := key.Decode(c.key)
	r := tryOn(t.view, api.Op{Kind: api.OGet, Table: c.home.schema.Name, Key: values})
	if len(r.Rows) == 0 {
		return nil
	}
	return r.Rows[0]
}

func (t *transaction) planEntries(c *cell) {
	for _, x := range c.home.indexes {
		was, now := x.entry(c.was), x.entry(c.now)
		if was == now {
			continue
		}
		if c.was != nil {
			t.stale = append(t.stale, entry{cell: c, shelf: t.hold(x, was)})
		}
		if c.now != nil {
			t.fresh = append(t.fresh, entry{cell: c, index: x, values: now, shelf: t.hold(x, now), clash: x.mayClash(c.now)})
		}
	}
}

func orderOfCells(a, b *cell) int {
	return cmp.Or(cmp.Compare(a.home.schema.Name, b.home.schema.Name), cmp.Compare(a.key, b.key))
}

func orderOfEntries(a, b entry) int {
	return cmp.Or(cmp.Compare(a.cell.home.schema.Name, b.cell.home.schema.Name), cmp.Compare(a.index.at, b.index.at), cmp.Compare(a.values, b.values), cmp.Compare(a.cell.key, b.cell.key))
}

// take locks one record that is to be written, or, when all are locked, puts one key into an index. Others that look there meet a locked record.
func (t *transaction) take() {
	ok := false
	if t.taken < len(t.writes) {
		ok = t.lock(t.writes[t.taken])
	} else {
		ok = t.enter(t.fresh[t.taken-len(t.writes)])
	}
	if !ok {
		t.abort()
		return
	}
	t.taken++
	if t.taken == len(t.writes)+len(t.fresh) {
		t.next = t.fix
	}
}

func (t *transaction) lock(c *cell) bool {
	if c.record == nil {
		return t.add(c)
	}
	if !c.isAsRead() || !c.record.Lock() {
		return false
	}
	c.locked = true
	return true
}

func (t *transaction) add(c *cell) bool {
	if _, there, _ := c.home.rows.Get(c.key); there {
		return false
	}
	r, number, ok := c.home.add(c.key)
	if !ok {
		return false
	}
	c.record, c.number, c.locked, c.added = r, number, true, true
	t.put[spot{c.home.rows, c.key}] = struct{}{}
	return true
}

// enter lets just one transaction at a time take values that no two rows may have: if each found the other one's key later, both would be aborted.
func (t *transaction) enter(x entry) bool {
	if x.clash && !t.writesAllOf(x) {
		return false
	}
	if _, _, e := x.shelf.Put(x.cell.key, x.cell.number); e != api.OK {
		return false
	}
	t.put[spot{x.shelf, x.cell.key}] = struct{}{}
	return true
}

// writesAllOf tells whether all rows whose keys are in an entry's shelf are written by this transaction.
func (t *transaction) writesAllOf(x entry) bool {
	keys, _, _, _ := x.shelf.Scan("", "", api.MaxItems)
	return !slices.ContainsFunc(keys, func(k string) bool {
		c, known := t.cellOf[place{x.cell.home, k}]
		return !known || !c.written
	})
}

// fix fixes the place in the order. All that is written is locked from ahead of it on, and all that was read is looked at again behind it.
func (t *transaction) fix() {
	t.epoch, t.step = t.store.clock.Global(), t.store.steps
	t.next = t.check
	if len(t.notes)+len(t.cells) == 0 {
		t.settle()
	}
}

// check looks at one search or one record again.
func (t *transaction) check() {
	ok := false
	if t.checked < len(t.notes) {
		ok = t.isAsNoted(t.notes[t.checked])
	} else {
		ok = t.cells[t.checked-len(t.notes)].holds()
	}
	if !ok {
		t.abort()
		return
	}
	t.checked++
	if t.checked == len(t.notes)+len(t.cells) {
		t.settle()
	}
}

// isAsNoted tells whether a search would come to the same again. Keys nearby may have come, and those that this transaction has put in. A key that came and went again is not seen any more, but if it was one of a committed row, left tells.
func (t *transaction) isAsNoted(n *note) bool {
	if n.shelf.Valid(n.seen) {
		return true
	}
	if n.shelf.left != n.left {
		return false
	}
	keys, _, _, _ := n.shelf.Scan(n.from, n.to, api.MaxItems)
	others := slices.DeleteFunc(keys, func(k string) bool {
		_, own := t.put[spot{n.shelf, k}]
		return own
	})
	return slices.Equal(others, n.keys)
}

// holds tells whether a record is as it was read, and nobody else is about to write it.
func (c *cell) holds() bool {
	if c.record == nil {
		// A refused transaction would have made it; that there is none is noted with the search for it.
		return true
	}
	_, _, locked, _, _, _ := tid.Unpack(c.record.Word())
	return c.isAsRead() && (c.locked || !locked)
}

func (c *cell) isAsRead() bool { return tid.Number(c.record.Word()) == tid.Number(c.word) }

// settle says what the transaction has come to. One that is refused writes nothing: nothing was planned for it.
func (t *transaction) settle() {
	if len(t.writes) == 0 {
		t.end()
		return
	}
	number, e := tid.Next(t.epoch, []uint64{t.top, t.store.last[t.worker]})
	if e != api.OK {
		// The epoch has no sequence left.
		t.abort()
		return
	}
	t.tid, t.store.last[t.worker] = number, number
	t.next = t.install
	if len(t.stale) > 0 {
		t.next = t.clear
	}
}

// clear takes one key out of an index. Its record is still locked, so that nobody meets a row there that has other values.
func (t *transaction) clear() {
	x := t.stale[t.cleared]
	x.shelf.Take(x.cell.key)
	x.shelf.left++
	t.cleared++
	if t.cleared == len(t.stale) {
		t.next = t.install
	}
}

// install writes one record.
func (t *transaction) install() {
	c := t.writes[t.installed]
	c.record.Install(t.tid, c.now, c.now == nil, t.keeps(c))
	c.record.Unlock()
	if c.added {
		c.home.full++
	}
	t.installed++
	if t.installed == len(t.writes) {
		t.store.log(t)
		t.end()
	}
}

// keeps tells whether the row that a cell was is that of an epoch that is asked of later: not, if this epoch has a newer one, nor if there was no record.
func (t *transaction) keeps(c *cell) bool {
	epoch, _, _, _, _, _ := tid.Unpack(c.word)
	return !c.added && epoch < t.epoch
}

func (t *transaction) abort() {
	t.aborted = true
	t.next = t.release
	if t.taken == 0 {
		t.end()
	}
}

// release gives one thing back that was taken, the last one first.
func (t *transaction) release() {
	t.taken--
	if t.taken < len(t.writes) {
		t.writes[t.taken].unlock()
	} else {
		x := t.fresh[t.taken-len(t.writes)]
		x.shelf.Take(x.cell.key)
	}
	if t.taken == 0 {
		t.end()
	}
}

func (c *cell) unlock() {
	if c.added {
		c.home.remove(c.key)
		return
	}
	c.record.Unlock()
}

func (t *transaction) end() {
	t.ended = true
	for _, h := range t.held {
		h.index.letGo(h.values)
	}
}
