package wal

import (
	"strings"

	"hopper/api"
	"hopper/tid"
	"hopper/value"
)

// word is how many bytes a number takes.
const word = 8

// bytesOf looks at the whole entry first: one that may not be is told as such, however long it is.
func bytesOf(x api.Entry) string {
	check(x)
	w := &writer{}
	w.number(x.Tid)
	w.number(uint64(len(x.Writes)))
	for _, write := range x.Writes {
		w.write(write)
	}
	return string(w.out)
}

func entryOf(b string) api.Entry {
	refuse(len(b) > api.MaxFrame, api.ErrLong)
	r := &reader{rest: b}
	x := api.Entry{Tid: r.number(), Writes: r.writes()}
	refuse(r.rest != "", api.ErrLog)
	check(x)
	return x
}

// check gives up, if an entry may not be.
func check(x api.Entry) {
	_, _, _, _, _, e := tid.Unpack(x.Tid)
	refuse(e != api.OK || x.Tid != tid.Number(x.Tid), api.ErrLog)
	refuse(len(x.Writes) < 1 || len(x.Writes) > api.MaxItems, api.ErrLog)
	for _, write := range x.Writes {
		refuse(len(write.Table) > api.MaxText || len(write.Key) > api.MaxText, api.ErrLog)
		_, e := value.Check(write.Row)
		refuse(e != api.OK || write.Gone && len(write.Row) > 0, api.ErrLog)
	}
}

// epochOf answers the epoch of an entry that may be.
func epochOf(x api.Entry) int {
	epoch, _, _, _, _, _ := tid.Unpack(x.Tid)
	return epoch
}

// writer has what is written so far, and gives up as soon as that is too long: there may be far more of it.
type writer struct {
	out []byte
}

func (w *writer) write(x api.Write) {
	w.text(x.Table)
	w.text(x.Key)
	w.flag(x.Gone)
	row, e := value.Encode(x.Row)
	must(e)
	w.text(row)
}

func (w *writer) text(s string) {
	w.number(uint64(len(s)))
	w.put(s)
}

func (w *writer) flag(yes bool) {
	if yes {
		w.put("\x01")
	} else {
		w.put("\x00")
	}
}

func (w *writer) number(n uint64) { w.put(numberBytes(n)) }

func (w *writer) put(s string) {
	refuse(len(s) > api.MaxFrame-len(w.out), api.ErrLong)
	w.out = append(w.out, s...)
}

// reader reads from the front of what is left, and gives up where that is none of the form.
type reader struct {
	rest string
}

func (r *reader) writes() []api.Write {
	many := r.size(api.MaxItems)
	list := make([]api.Write, many)
	for at := range list {
		// Go calls these as they stand, from left to right.
		list[at] = api.Write{Table: r.text(), Key: r.text(), Gone: r.flag(), Row: r.row()}
	}
	return list
}

// text is a clone, since what is handed out shares no memory with what was read.
func (r *reader) text() string { return strings.Clone(r.take(r.size(api.MaxText))) }

func (r *reader) flag() bool {
	s := r.take(1)
	refuse(s != "\x00" && s != "\x01", api.ErrLog)
	return s == "\x01"
}

func (r *reader) row() []api.Value {
	row, f := value.Decode(r.take(r.size(api.MaxFrame)))
	refuse(f.Code != api.OK, api.ErrLog)
	return row
}

// size reads a number of members or bytes. It is held against the most as it stands: as an int it might be below 0.
func (r *reader) size(most int) int {
	n := r.number()
	refuse(n > uint64(most), api.ErrLog)
	return int(n)
}

func (r *reader) number() uint64 { return numberOf(r.take(word)) }

func (r *reader) take(size int) string {
	refuse(size > len(r.rest), api.ErrLog)
	taken := r.rest[:size]
	r.rest = r.rest[size:]
	return taken
}

// numberBytes writes the lowest byte first.
func numberBytes(n uint64) string {
	var b [word]byte
	for at := range b {
		b[at] = byte(n >> (8 * at))
	}
	return string(b[:])
}

// numberOf reads what numberBytes has written; b has as many bytes.
func numberOf(b string) uint64 {
	n := uint64(0)
	for at := range word {
		n |= uint64(b[at]) << (8 * at)
	}
	return n
}
