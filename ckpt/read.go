package ckpt

import (
	"iter"

	"hopper/api"
	"hopper/disk"
	"hopper/frame"
	"hopper/schema"
	"hopper/table"
	"hopper/value"
)

// load answers false, if the parts are not the checkpoint that the manifest tells.
func (m manifest) load(d *disk.Disk) (*table.Data, bool) {
	l := &loader{data: table.New()}
	frames := 0
	for list, ok := range m.read(d) {
		if !ok {
			return nil, false
		}
		for _, body := range list {
			if !l.take(body) {
				return nil, false
			}
		}
		frames += len(list)
	}
	if frames != m.frames {
		return nil, false
	}
	return l.data, true
}

// read yields the bodies of each part, and false of one that is missing, or is not frames up to its end. A disk has far fewer files than a manifest may tell, so the first one that is missing is met soon.
func (m manifest) read(d *disk.Disk) iter.Seq2[[]string, bool] {
	return func(yield func([]string, bool) bool) {
		for part := range m.parts {
			b, e := d.Read(m.partName(part))
			list, end := frame.Frames(b)
			if !yield(list, e == api.OK && end == len(b)) {
				return
			}
		}
	}
}

// loader puts what frames hold into data, in their order.
type loader struct {
	data *table.Data
	// table is the last one; ahead of all it has no name, and no table has none.
	table api.Table
	// last is the key of the table's last row; ahead of all it has no values, and stands ahead of all keys.
	last []api.Value
}

// take answers false, if a frame is none of a checkpoint, or may not stand here.
func (l *loader) take(body string) bool {
	if body == "" {
		return false
	}
	switch body[:1] {
	case schemaMark:
		return l.takeSchema(body[1:])
	case rowMark:
		return l.takeRow(body[1:])
	}
	return false
}

func (l *loader) takeSchema(b string) bool {
	t, ok := schemaOf(b)
	if !ok || t.Name <= l.table.Name || l.data.Create(t) != api.OK {
		return false
	}
	l.table, l.last = t, nil
	return true
}

// schemaOf answers false, if bytes are not just one schema's that may be.
func schemaOf(b string) (api.Table, bool) {
	c, f := schema.Decode(b)
	if f.Code != api.OK {
		return api.Table{}, false
	}
	names := c.Names()
	if len(names) != 1 {
		return api.Table{}, false
	}
	t, e := c.Find(names[0])
	return t, e == api.OK
}

func (l *loader) takeRow(b string) bool {
	row, f := value.Decode(b)
	if f.Code != api.OK {
		return false
	}
	// This refuses a row that stands ahead of all schemas, that does not fit, that clashes, or is one too many.
	_, done, _ := l.data.Apply([]api.Op{{Kind: api.OInsert, Table: l.table.Name, Row: row}})
	if !done {
		return false
	}
	key := row[:l.table.Key]
	c, _ := value.Compare(l.last, key)
	l.last = key
	return c < 0
}
