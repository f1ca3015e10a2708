package ckpt

import (
	"iter"
	"strings"

	"hopper/api"
	"hopper/disk"
	"hopper/frame"
	"hopper/schema"
	"hopper/table"
	"hopper/value"
)

// What a frame begins with says what it holds.
const (
	schemaMark = "\x01"
	rowMark    = "\x02"
)

// bodies yields what the frames of a checkpoint are made of, one by one: all of them at once may be far more than a disk has room for.
func bodies(data *table.Data) iter.Seq[string] {
	return func(yield func(string) bool) {
		for _, name := range data.Tables() {
			if !yield(schemaMark + schemaBytes(data, name)) {
				return
			}
			rows, _ := data.Rows(name)
			for _, row := range rows {
				// Rows that fit a table are not refused.
				b, _ := value.Encode(row)
				if !yield(rowMark + b) {
					return
				}
			}
		}
	}
}

// schemaBytes are those of a catalogue of this schema alone.
func schemaBytes(data *table.Data, name string) string {
	t, _ := data.Schema(name)
	c := schema.New()
	c.Create(t)
	b, _ := c.Encode()
	return b
}

func hasLongBody(data *table.Data) bool {
	for body := range bodies(data) {
		if len(body) > api.MaxFrame {
			return true
		}
	}
	return false
}

// parts yields the bytes of each part, and how many frames these are. No body may be too long; then a part has one frame at least.
func parts(data *table.Data) iter.Seq2[string, int] {
	return func(yield func(string, int) bool) {
		var part strings.Builder
		frames := 0
		for body := range bodies(data) {
			framed, _ := frame.Frame(body)
			if part.Len()+len(framed) > api.MaxBytes {
				if !yield(part.String(), frames) {
					return
				}
				part.Reset()
				frames = 0
			}
			part.WriteString(framed)
			frames++
		}
		if frames > 0 {
			yield(part.String(), frames)
		}
	}
}

// writeParts counts in the manifest what it has written.
func (m *manifest) writeParts(d *disk.Disk, data *table.Data) api.Errno {
	for part, frames := range parts(data) {
		if e := write(d, m.partName(m.parts), part); e != api.OK {
			return e
		}
		m.parts++
		m.frames += frames
	}
	return api.OK
}

// publish puts the manifest in the place of the older one when all of it lasts: it is there whole, or not at all.
func (m manifest) publish(d *disk.Disk) api.Errno {
	if e := d.Remove(newManifest); e != api.OK && e != api.ErrNone {
		return e
	}
	if e := write(d, newManifest, m.bytes()); e != api.OK {
		return e
	}
	return d.Rename(newManifest, manifestFile)
}

func (m manifest) removeOthers(d *disk.Disk) api.Errno {
	for _, name := range d.Names() {
		number, isPart := numberIn(name)
		if !isPart || number == m.number {
			continue
		}
		if e := d.Remove(name); e != api.OK {
			return e
		}
	}
	return api.OK
}

// write answers when what is written lasts.
func write(d *disk.Disk, name, data string) api.Errno {
	if e := d.Append(name, data); e != api.OK {
		return e
	}
	return d.Sync(name)
}
