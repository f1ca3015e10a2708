package occ_test

import (
	"strings"
	"testing"

	"hopper/api"
)

// P1: beyond what chapter 16 promises anything of, each call ends still, and none panics. What there is no room for is refused, not aborted for ever.

// end runs a batch on a store; nothing is held against chapter 15.
func (x *script) end(w int, ops ...api.Op) api.Outcome {
	x.Helper()
	if _, e := x.s.Begin(w, ops); e != api.OK {
		x.Fatal(e)
	}
	for range 1 << 20 {
		done, o, e := x.s.Step(w)
		if e != api.OK {
			x.Fatal(e)
		}
		if done {
			return o
		}
	}
	x.Fatal("it does not end")
	return api.Outcome{}
}

func TestMoreRowsThanThereIsRoomFor(t *testing.T) {
	x := newScript(t, 2, numbers("t", true))
	var ops []api.Op
	for n := range int64(most) {
		ops = append(ops, put("t", num(n), num(n)))
	}
	if o := x.end(0, ops...); !o.Committed {
		t.Fatal(brief(o))
	}
	for _, op := range []api.Op{put("t", num(-1), num(-1)), insert("t", num(most), null())} {
		if o := x.end(0, op); o.Committed || len(o.Results) != 1 || o.Results[0].Code != api.ErrLong {
			t.Error(brief(o))
		}
	}
	if o := x.end(0, put("t", num(7), num(-7)), scan("t"), find("t", "i", num(8)), del("t", num(9)), add("t", 1, 1<<20, num(8))); !o.Committed || len(o.Results[1].Rows) != most {
		t.Error(brief(o))
	}
	if d, e := x.s.AsOf(1); e != api.OK {
		t.Error(e)
	} else if list, _ := d.Rows("t"); len(list) != most-1 {
		t.Error(len(list))
	}
}

// Many at once put in more keys than a tree has room for.
func TestMoreRowsAtOnceThanThereIsRoomFor(t *testing.T) {
	x := newScript(t, 4, numbers("t", false))
	for w := range int64(4) {
		var ops []api.Op
		for n := range int64(2000) {
			ops = append(ops, put("t", num(4*n+w), num(w)))
		}
		if _, e := x.s.Begin(int(w), ops); e != api.OK {
			t.Fatal(e)
		}
	}
	for range 1 << 20 {
		for w := range 4 {
			x.s.Step(w)
		}
		if x.s.Working() == 0 {
			break
		}
	}
	if x.s.Working() > 0 {
		t.Fatal("they do not end")
	}
	rows := 0
	if d, e := x.s.AsOf(1); e == api.OK {
		list, _ := d.Rows("t")
		rows = len(list)
	}
	wrote := 0
	for _, entry := range x.s.Entries() {
		wrote += len(entry.Writes)
	}
	if rows != wrote || rows%2000 != 0 {
		t.Errorf("%d rows, %d were written", rows, wrote)
	}
	x.end(0, scan("t"))
}

func TestKeysThatAreTooLong(t *testing.T) {
	x := newScript(t, 1, example(), api.Table{Name: "k", Columns: []api.Column{{Name: "a", Kind: api.VText}, {Name: "b", Kind: api.VInt}}, Key: 1, Indexes: []api.Index{{Name: "i", Columns: []int{0, 1}, Unique: true}}})
	for _, s := range []string{strings.Repeat("k", api.MaxText), strings.Repeat("\x00", api.MaxText), strings.Repeat("k", api.MaxText-2)} {
		for _, op := range []api.Op{put("k", txt(s), num(1)), insert("k", txt(s), null())} {
			if o := x.end(0, op); o.Committed || len(o.Results) != 1 || o.Results[0].Code != api.ErrLong {
				t.Error(brief(o))
			}
		}
		o := x.end(0, get("k", txt(s)), del("k", txt(s)), scanFrom("k", row{txt(s)}, nil, 1), scanFrom("k", nil, row{txt(s)}, 1), find("k", "i", txt(s), num(1)))
		if !o.Committed {
			t.Error(brief(o))
		}
		for _, r := range o.Results {
			if len(r.Rows) != 0 {
				t.Error(brief(r))
			}
		}
		if o := x.end(0, add("k", 1, 1, txt(s))); o.Committed || o.Results[0].Code != api.ErrNone {
			t.Error(brief(o))
		}
	}
	// Just as long as may be.
	long := strings.Repeat("k", api.MaxText-3)
	if o := x.end(0, put("k", txt(long), num(1)), get("k", txt(long))); !o.Committed || len(o.Results[1].Rows) != 1 {
		t.Error(brief(o))
	}
}
