package tpcc_test

import (
	"slices"
	"testing"

	"hopper/api"
	"hopper/table"
	"hopper/tpcc"
)

// R4: what is handed in is neither changed nor kept, what lies behind it is not read, and what is told is new. R7: the same call tells the same.

// roomy is a copy of a list with spare room, in which lies what would be refused.
func roomy(list []api.Value) []api.Value {
	own := append(make([]api.Value, 0, len(list)+7), list...)
	rest := own[len(own):cap(own)]
	for i := range rest {
		rest[i] = api.Value{Kind: 9, N: 77, S: "x"}
	}
	return own
}

func spoil(list []api.Value) {
	list = list[:cap(list)]
	for i := range list {
		list[i] = api.Value{Kind: api.VText, N: 77, C: 7i, S: "spoilt"}
	}
}

// script are calls of all kinds, some of which are refused.
func script() []struct {
	name string
	args []int64
} {
	return []struct {
		name string
		args []int64
	}{
		{"new", []int64{1, 1, 1, 2, 1, 3, 1, 2, 1, 2, 1, 4}}, {"state", []int64{1, 1, 1}}, {"new", []int64{1, 2, 1, 1, 1, 1}}, {"new", []int64{1, 1, 2, 1, 1, 1}}, {"low", []int64{1, 1, 50}},
		{"new", []int64{1, 1, 1, 9, 1, 1}}, {"new", []int64{1, 1, 9, 1, 1, 1}}, {"pay", []int64{1, 1, 1, great}}, {"pay", []int64{1, 2, 1, 1}}, {"pay", []int64{2, 2, 1, 500}}, {"bring", []int64{1, 11}},
		{"bring", []int64{1, 10}}, {"state", []int64{1, 2, 1}}, {"state", []int64{1, 1, 1}}, {"bring", []int64{2, 1}}, {"bring", []int64{1, 1}}, {"state", []int64{1, 1, 2}}, {"low", []int64{2, 1, 50}}, {"low", []int64{3, 1, 50}},
	}
}

func TestWhatIsHandedInStays(t *testing.T) {
	d, other := load(t, 2, 2, 2, 2), load(t, 2, 2, 2, 2)
	for at, x := range script() {
		given := roomy(whole(x.args...))
		before := slices.Clone(given[:cap(given)])
		r, done := tpcc.Call(d, x.name, given)
		if !slices.Equal(given[:cap(given)], before) {
			t.Errorf("%d: %v is handed in, and %v came of it", at, before, given[:cap(given)])
		}
		want, wantDone := tpcc.Call(other, x.name, whole(x.args...))
		if r.Code != want.Code || done != wantDone || !sameRows(r.Rows, want.Rows) {
			t.Error(at, r, want)
		}
		spoil(given)
		if y := differ(all(d), all(other)); y != "" {
			t.Error(at, y)
		}
	}
	sounds(t, d, api.OK)
}

// Rows that were told may be written over, one after the other, with their spare room.
func TestRowsAreNew(t *testing.T) {
	d, other := load(t, 2, 2, 2, 2), load(t, 2, 2, 2, 2)
	var kept, wants [][]api.Value
	for at, x := range script() {
		r, _ := tpcc.Call(d, x.name, whole(x.args...))
		want, _ := tpcc.Call(other, x.name, whole(x.args...))
		if !sameRows(r.Rows, want.Rows) {
			t.Error(at, r, want)
		}
		for k := range r.Rows {
			if k%2 == 0 {
				// Of all calls some rows stay.
				kept, wants = append(kept, r.Rows[k]), append(wants, want.Rows[k])
				continue
			}
			spoil(r.Rows[k])
			for more := k + 1; more < len(r.Rows); more++ {
				if !slices.Equal(r.Rows[more], want.Rows[more]) {
					t.Error(at, "rows share memory:", k, more)
				}
			}
		}
		rows := r.Rows[:cap(r.Rows)]
		for k := range rows {
			rows[k] = nil
		}
		if y := differ(all(d), all(other)); y != "" {
			t.Error(at, y)
		}
	}
	if !sameRows(kept, wants) || len(kept) < 10 {
		t.Error(shown(kept), shown(wants))
	}
	for k := range kept {
		spoil(kept[k])
		if !sameRows(kept[k+1:], wants[k+1:]) {
			t.Error("rows share memory:", k)
		}
	}
	if y := differ(all(d), all(other)); y != "" {
		t.Error(y)
	}
	sounds(t, d, api.OK)
}

// Books do not hang on other books.
func TestBooksAreApart(t *testing.T) {
	a, b := load(t, 2, 2, 2, 2), load(t, 2, 2, 2, 2)
	for _, x := range script() {
		callOf(a, x.name, x.args)
	}
	if y := differ(all(b), loadedRows(t, 2, 2, 2, 2)); y != "" {
		t.Error(y)
	}
	// The same calls of the same books tell the same, however often.
	c := load(t, 2, 2, 2, 2)
	var first, second []api.Result
	for _, x := range script() {
		r, _ := callOf(b, x.name, x.args)
		first = append(first, r)
		callOf(table.New(), x.name, x.args)
	}
	for _, x := range script() {
		r, _ := callOf(c, x.name, x.args)
		second = append(second, r)
	}
	if !slices.EqualFunc(first, second, func(x, y api.Result) bool { return x.Code == y.Code && sameRows(x.Rows, y.Rows) }) {
		t.Error(first, second)
	}
	if y := differ(all(a), all(b)); y != "" {
		t.Error(y)
	}
}
