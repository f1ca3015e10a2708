package ckpt_test

import (
	"testing"

	"hopper/api"
	"hopper/ckpt"
	"hopper/disk"
	"hopper/table"
)

// R4: what is handed in is neither changed nor kept, and what is told is new.

// upset changes all that there is in data.
func upset(t *testing.T, data *table.Data) {
	t.Helper()
	for _, name := range data.Tables() {
		x, _ := data.Schema(name)
		rows, _ := data.Rows(name)
		for _, r := range rows {
			if _, done, e := data.Apply([]api.Op{{Kind: api.ODelete, Table: name, Key: r[:x.Key]}}); !done || e != api.OK {
				t.Fatal("ODelete:", name, r, e)
			}
			for i := range r {
				r[i] = api.Value{Kind: 77, S: "spoilt"}
			}
		}
		is(t, "Drop", data.Drop(name), api.OK)
		x.Columns[0].Kind, x.Columns[0].Name = api.VBool, "other"
		x.Indexes = nil
		is(t, "Create", data.Create(x), api.OK)
	}
	is(t, "Create", data.Create(plain("another")), api.OK)
}

// wipe takes all files from a disk, and puts others there.
func wipe(t *testing.T, d *disk.Disk) {
	t.Helper()
	for _, name := range d.Names() {
		is(t, name, d.Remove(name), api.OK)
		is(t, name, d.Append(name, "spoilt"), api.OK)
	}
}

func TestDataAreNeitherChangedNorKept(t *testing.T) {
	for _, tables := range [][]modelTable{nil, chapters(), mixed(), heavy()} {
		data := dataOf(t, tables)
		before := stateOf(t, data)
		d, second := disk.New(), disk.New()
		for n := range 3 {
			if _, e := ckpt.Write(d, data, n); e != api.OK {
				t.Fatal(e)
			}
			if stateOf(t, data) != before {
				t.Fatal("the data have changed")
			}
		}
		ckpt.Write(second, data, 2)
		files, others := filesOf(d), filesOf(second)
		wipe(t, second)
		if stateOf(t, data) != before {
			t.Error("a change on a disk has changed the data")
		}
		holds(t, "the other disk", d, files)
		upset(t, data)
		holds(t, "the data were upset", d, files)
		tells(t, "the data were upset", d, tables, 2)
		second = disk.New()
		ckpt.Write(second, dataOf(t, tables), 2)
		holds(t, "the same anew", second, others)
	}
}

// Data that are refused, or that a disk refuses, are not changed, either.
func TestRefusedDataAreNotChanged(t *testing.T) {
	for _, tables := range [][]modelTable{chapters(), heavy(), parted(100, api.MaxFrame+1)} {
		data := dataOf(t, tables)
		before := stateOf(t, data)
		for fuse := range 12 {
			d := laid(t, map[string]string{"ckpt.0.0": "x", "manifest.new": "y"})
			d.Fuse(fuse)
			for _, epoch := range []int{-1, 3, api.MaxEpoch + 1} {
				ckpt.Write(d, data, epoch)
			}
			ckpt.Write(nil, data, 3)
			if stateOf(t, data) != before {
				t.Fatal("the data have changed")
			}
		}
	}
}

func TestWhatIsToldIsNew(t *testing.T) {
	for _, tables := range [][]modelTable{nil, chapters(), mixed(), heavy()} {
		d := disk.New()
		written := dataOf(t, tables)
		ckpt.Write(d, written, 3)
		files := filesOf(d)
		first, _, _ := ckpt.Read(d)
		second, _, _ := ckpt.Read(d)
		want := plainText(tables)
		upset(t, first)
		if stateOf(t, second) != want || stateOf(t, written) != want {
			t.Error("upsetting data changes others")
		}
		holds(t, "data were upset", d, files)
		tells(t, "data were upset", d, tables, 3)
		wipe(t, d)
		if stateOf(t, second) != want {
			t.Error("a change on the disk changes what was told")
		}
		upset(t, written)
		if stateOf(t, second) != want {
			t.Error("upsetting what was written changes what was told")
		}
	}
}

// R7: the same disk and the same data tell the same, however often.
func TestTheSameTellsTheSame(t *testing.T) {
	data := dataOf(t, mixed())
	for range 20 {
		d, again := disk.New(), disk.New()
		ckpt.Write(d, data, 3)
		ckpt.Write(again, dataOf(t, mixed()), 3)
		holds(t, "again", again, filesOf(d))
		tells(t, "again", d, mixed(), 3)
	}
}
