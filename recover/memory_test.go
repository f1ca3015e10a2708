package recover_test

import (
	"testing"

	"hopper/api"
	"hopper/disk"
	back "hopper/recover"
	"hopper/table"
)

// R4: what is handed in is neither changed nor kept, and what is told is new.

// upset changes all that there is in data.
func upset(t *testing.T, data *table.Data) {
	t.Helper()
	for _, name := range data.Tables() {
		x, _ := data.Schema(name)
		rows, _ := data.Rows(name)
		for _, r := range rows {
			if _, done, e := data.Apply([]api.Op{{Kind: api.ODelete, Table: name, Key: r[:x.Key]}}); !done || e != api.OK {
				t.Fatal("ODelete:", name, r, e)
			}
			for i := range r {
				r[i] = api.Value{Kind: 77, S: "spoilt"}
			}
		}
		is(t, "Drop", data.Drop(name), api.OK)
		x.Columns[0].Kind, x.Columns[0].Name = api.VBool, "other"
		x.Indexes = nil
		is(t, "Create", data.Create(x), api.OK)
	}
	is(t, "Create", data.Create(plain("another")), api.OK)
}

// wipe takes all files from a disk, and puts others there.
func wipe(t *testing.T, d *disk.Disk) {
	t.Helper()
	for _, name := range d.Names() {
		is(t, name, d.Remove(name), api.OK)
		is(t, name, d.Append(name, "spoilt"), api.OK)
	}
}

func TestWhatReadTellsIsNew(t *testing.T) {
	t.Parallel()
	for what, files := range disks() {
		d := laid(t, files)
		want := modelRead(files).told()
		first, _, _ := back.Read(d)
		second, _, _ := back.Read(d)
		third, _, _ := back.Read(laid(t, files))
		upset(t, first)
		holds(t, what, d, files)
		for _, other := range []*table.Data{second, third} {
			if stateOf(t, other) != want.state {
				t.Error(what, "upsetting data changes others")
			}
		}
		same(t, "data were upset: "+what, d, want)
		wipe(t, d)
		if stateOf(t, second) != want.state {
			t.Error(what, "a change on the disk changes what was told")
		}
	}
}

func TestWhatStartTellsIsNew(t *testing.T) {
	t.Parallel()
	for what, files := range disks() {
		want := modelStart(files, 2)
		d := laid(t, files)
		read, _, _ := back.Read(d)
		data, l, epoch, e := back.Start(d, 2)
		other, _, _, _ := back.Start(laid(t, files), 2)
		if e != api.OK {
			t.Fatal(what, e)
		}
		upset(t, data)
		holds(t, "data were upset: "+what, d, want.last())
		same(t, "data were upset: "+what, d, want.held.told())
		for _, y := range []*table.Data{read, other} {
			if stateOf(t, y) != want.held.told().state {
				t.Error(what, "upsetting data changes others")
			}
		}
		if epoch == api.MaxEpoch {
			continue
		}
		// The log goes on, whatever became of the data; and nothing of it gets into them.
		before := stateOf(t, data)
		is(t, "Add", l.Add(1, small(epoch+1, 0, 77)), api.OK)
		is(t, "Flush", l.Flush(1), api.OK)
		is(t, "Mark", l.Mark(epoch+1), api.OK)
		if got := modelRead(filesOf(d)).told(); readOf(t, d) != got {
			t.Error(what, "entries behind it")
		}
		wipe(t, d)
		if stateOf(t, data) != before || stateOf(t, read) != want.held.told().state {
			t.Error(what, "a change on the disk changes what was told")
		}
	}
}

// Data that were told are data as others are: they take batches, follow their indexes, and refuse what clashes.
func TestDataGoOn(t *testing.T) {
	files := disks()["all sorts"]
	read, _, _ := back.Read(laid(t, files))
	begun, _, _, _ := back.Start(laid(t, files), 1)
	for _, data := range []*table.Data{read, begun} {
		for _, x := range []struct {
			op   api.Op
			code api.Errno
			rows []row
		}{
			{api.Op{Kind: api.OGet, Table: "9z", Key: row{num(1)}}, api.OK, []row{{num(1), txt("")}}},
			{api.Op{Kind: api.OPut, Table: "9z", Row: row{num(8), txt("x")}}, api.ErrUnique, nil},
			{api.Op{Kind: api.OInsert, Table: "9z", Row: row{num(2), txt("q")}}, api.ErrThere, nil},
			{api.Op{Kind: api.OFind, Table: "9z", Index: "i", Key: row{txt("x")}, Limit: 9}, api.OK, []row{{num(2), txt("x")}}},
			{api.Op{Kind: api.ODelete, Table: "9z", Key: row{num(2)}}, api.OK, []row{{num(2), txt("x")}}},
			{api.Op{Kind: api.OPut, Table: "9z", Row: row{num(8), txt("x")}}, api.OK, nil},
			{api.Op{Kind: api.OFind, Table: "9z", Index: "i", Key: row{txt("x")}, Limit: 9}, api.OK, []row{{num(8), txt("x")}}},
			{api.Op{Kind: api.OPut, Table: "s", Row: row{num(9), num(3), txt("z")}}, api.ErrUnique, nil},
			{api.Op{Kind: api.OPut, Table: "s", Row: row{num(9), num(9), txt("c")}}, api.ErrUnique, nil},
			{api.Op{Kind: api.OScan, Table: "00", Limit: 9}, api.OK, rowsOf(1)},
		} {
			list, _, e := data.Apply([]api.Op{x.op})
			if e != api.OK || len(list) != 1 || list[0].Code != x.code || rowsText(list[0].Rows) != rowsText(x.rows) {
				t.Errorf("%s: %s, %d", brief(x.op), brief(list), e)
			}
		}
	}
}

// R7: the same disk tells the same, however often.
func TestTheSameTellsTheSame(t *testing.T) {
	t.Parallel()
	for what, files := range disks() {
		want := modelStart(files, 4)
		for range 5 {
			d := laid(t, files)
			if got, _ := started(t, what, d, 4); got != want.held.told() {
				t.Error(what, brief(got))
			}
			holds(t, what, d, want.last())
		}
	}
}
