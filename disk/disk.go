// Package disk is layer 1: a stand-in for a disk, whose files lose by a crash what was not synced. See shared/doc/01-disk.md.
package disk

import (
	"bytes"
	"maps"
	"slices"

	"hopper/api"
)

// Disk has files by their names.
type Disk struct {
	files map[string]*file
	down  bool
	fused bool
	left  int // changes that the fuse still lets through
}

// file holds bytes of which the first so many are safe; those behind them are its tail.
type file struct {
	data []byte
	safe int
}

func New() *Disk { return &Disk{files: map[string]*file{}} }

func (d *Disk) Append(name, data string) api.Errno {
	if !nameMayBe(name) {
		return api.ErrName
	}
	f, there := d.files[name]
	if !there {
		f = &file{}
	}
	if len(data) > api.MaxBytes-len(f.data) || !there && len(d.files) >= api.MaxFiles {
		return api.ErrLong
	}
	if e := d.change(); e != api.OK {
		return e
	}
	f.data = append(f.data, data...)
	d.files[name] = f
	return api.OK
}

func (d *Disk) Sync(name string) api.Errno {
	f, e := d.find(name)
	if e != api.OK {
		return e
	}
	if e := d.change(); e != api.OK {
		return e
	}
	f.safe = len(f.data)
	return api.OK
}

func (d *Disk) Rename(from, to string) api.Errno {
	if !nameMayBe(from) || !nameMayBe(to) {
		return api.ErrName
	}
	f, e := d.find(from)
	if e != api.OK {
		return e
	}
	if e := d.change(); e != api.OK {
		return e
	}
	// Taken away first, so that a file that is renamed to its own name stays.
	delete(d.files, from)
	d.files[to] = f
	return api.OK
}

func (d *Disk) Remove(name string) api.Errno {
	if _, e := d.find(name); e != api.OK {
		return e
	}
	if e := d.change(); e != api.OK {
		return e
	}
	delete(d.files, name)
	return api.OK
}

func (d *Disk) Read(name string) (string, api.Errno) {
	f, e := d.find(name)
	if e != api.OK {
		return "", e
	}
	return string(f.data), api.OK
}

func (d *Disk) Names() []string { return slices.Sorted(maps.Keys(d.files)) }

func (d *Disk) Fuse(n int) api.Errno {
	if n < 0 {
		return api.ErrRange
	}
	d.fused, d.left = true, n
	return api.OK
}

func (d *Disk) Crash(draws []int) api.Errno {
	if len(draws) > api.MaxItems {
		return api.ErrLong
	}
	d.down, d.fused, d.left = false, false, 0
	for _, name := range d.Names() {
		f := d.files[name]
		if f.tail() == 0 {
			continue
		}
		draw := 0
		if len(draws) > 0 {
			draw, draws = draws[0], draws[1:]
		}
		f.tear(draw)
	}
	return api.OK
}

// change asks for leave to make a change. It comes behind every other refusal, because a call that is refused takes nothing of the fuse.
func (d *Disk) change() api.Errno {
	if d.fused && d.left == 0 {
		d.down = true
	}
	if d.down {
		return api.ErrDown
	}
	if d.fused {
		d.left--
	}
	return api.OK
}

func (d *Disk) find(name string) (*file, api.Errno) {
	if !nameMayBe(name) {
		return nil, api.ErrName
	}
	f, there := d.files[name]
	if !there {
		return nil, api.ErrNone
	}
	return f, api.OK
}

func (f *file) tail() int { return len(f.data) - f.safe }

// tear keeps of the tail what the draw says, and what is left is safe.
func (f *file) tear(draw int) {
	keep := 0
	if draw > 0 {
		keep = draw % (f.tail() + 1)
	}
	// A copy, so that what is lost is not held on to.
	f.data = bytes.Clone(f.data[:f.safe+keep])
	f.safe = len(f.data)
}

func nameMayBe(name string) bool {
	if len(name) < 1 || len(name) > api.MaxName {
		return false
	}
	for i := range len(name) {
		if !nameByte(name[i]) {
			return false
		}
	}
	return true
}

func nameByte(b byte) bool {
	return 'a' <= b && b <= 'z' || '0' <= b && b <= '9' || b == '.'
}
