package ckpt_test

import (
	"cmp"
	"encoding/binary"
	"fmt"
	"hash/crc32"
	"maps"
	"math/big"
	"regexp"
	"slices"
	"strings"
	"testing"

	"hopper/api"
	"hopper/ckpt"
	"hopper/disk"
	"hopper/mess"
	"hopper/schema"
	"hopper/table"
	"hopper/value"
)

// The model is the chapter's words, written out as plainly as may be: frames by the library's CRC-32, names by a pattern, numbers in names without an end, tables as lists of rows of which each is held against all others, and a Write that is a list of changes.

type row = []api.Value

type modelTable struct {
	schema api.Table
	rows   []row
}

func num(n int64) api.Value { return api.Value{Kind: api.VInt, N: n} }

func txt(s string) api.Value { return api.Value{Kind: api.VText, S: s} }

func flo(x float64) api.Value { return api.Value{Kind: api.VFloat, C: complex(x, 0)} }

func pair(c complex128) api.Value { return api.Value{Kind: api.VPair, C: c} }

func yes(n int64) api.Value { return api.Value{Kind: api.VBool, N: n} }

func null() api.Value { return api.Value{} }

// word is a number: eight bytes, the lowest first.
func word(n uint64) string { return string(binary.LittleEndian.AppendUint64(nil, n)) }

func text(s string) string { return word(uint64(len(s))) + s }

func framed(b string) string {
	s := string(binary.LittleEndian.AppendUint32(nil, uint32(len(b)))) + b
	return s + string(binary.LittleEndian.AppendUint32(nil, crc32.ChecksumIEEE([]byte(s))))
}

func frames(bodies ...string) string {
	out := make([]string, len(bodies))
	for i, b := range bodies {
		out[i] = framed(b)
	}
	return strings.Join(out, "")
}

func manifest(numbers ...uint64) string {
	out := ""
	for _, n := range numbers {
		out += word(n)
	}
	return framed(out)
}

// schemaBody writes a schema as it stands, whether it may be or not.
func schemaBody(x api.Table) string {
	out := []string{"\x01", text(x.Name), word(uint64(len(x.Columns)))}
	for _, c := range x.Columns {
		out = append(out, text(c.Name), word(uint64(c.Kind)))
	}
	out = append(out, word(uint64(x.Key)), word(uint64(len(x.Indexes))))
	for _, y := range x.Indexes {
		out = append(out, text(y.Name), word(uint64(len(y.Columns))))
		for _, n := range y.Columns {
			out = append(out, word(uint64(n)))
		}
		flag := "\x00"
		if y.Unique {
			flag = "\x01"
		}
		out = append(out, flag)
	}
	return strings.Join(out, "")
}

func rowBody(values ...api.Value) string {
	s, e := value.Encode(values)
	if e != api.OK {
		panic(e)
	}
	return "\x02" + s
}

func modelBodies(tables []modelTable) (out []string) {
	for _, x := range tables {
		out = append(out, schemaBody(x.schema))
		for _, r := range x.rows {
			out = append(out, rowBody(r...))
		}
	}
	return out
}

// modelParts lays frames from the end of one part to the next, whenever there would be too many bytes.
func modelParts(bodies []string) (parts []string) {
	for i, b := range bodies {
		last := len(parts) - 1
		if i == 0 || len(parts[last])+len(b)+8 > 262144 {
			parts = append(parts, framed(b))
		} else {
			parts[last] += framed(b)
		}
	}
	return parts
}

// modelFrames answers whether bytes are frames up to their end.
func modelFrames(b string) (bodies []string, good bool) {
	for b != "" {
		if len(b) < 8 {
			return nil, false
		}
		n := int(binary.LittleEndian.Uint32([]byte(b[:4])))
		if n > 65536 || len(b) < n+8 || framed(b[4:4+n]) != b[:n+8] {
			return nil, false
		}
		bodies, b = append(bodies, b[4:4+n]), b[n+8:]
	}
	return bodies, true
}

func modelRead(files map[string]string) ([]modelTable, int, api.Errno) {
	b, there := files["manifest"]
	if !there {
		return nil, 0, api.ErrNone
	}
	list, good := modelFrames(b)
	if !good || len(list) != 1 || len(list[0]) != 32 {
		return nil, 0, api.ErrCorrupt
	}
	var n [4]uint64
	for i := range n {
		n[i] = binary.LittleEndian.Uint64([]byte(list[0][8*i:]))
	}
	if n[0] > 1<<31 || n[1] > 1<<24 || n[2] > 1<<24 || n[3] > 1<<31 {
		return nil, 0, api.ErrCorrupt
	}
	var all []string
	for p := range n[1] {
		b, there := files[fmt.Sprintf("ckpt.%d.%d", n[0], p)]
		list, good := modelFrames(b)
		if !there || !good {
			return nil, 0, api.ErrCorrupt
		}
		all = append(all, list...)
	}
	tables, good := modelTables(all)
	if !good || uint64(len(all)) != n[2] {
		return nil, 0, api.ErrCorrupt
	}
	return tables, int(n[3]), api.OK
}

func modelTables(bodies []string) (tables []modelTable, good bool) {
	for _, body := range bodies {
		last := len(tables) - 1
		switch {
		case strings.HasPrefix(body, "\x01"):
			x, e := mess.Asked(word(api.MCreate) + word(0) + body[1:])
			if e != api.OK || schema.Check(x.Table) != api.OK || last >= 0 && tables[last].schema.Name >= x.Table.Name {
				return nil, false
			}
			tables = append(tables, modelTable{schema: x.Table})
		case strings.HasPrefix(body, "\x02") && last >= 0:
			r, f := value.Decode(body[1:])
			if f.Code != api.OK || !tables[last].takes(r) {
				return nil, false
			}
			tables[last].rows = append(tables[last].rows, r)
		default:
			return nil, false
		}
	}
	return tables, len(tables) <= 4096
}

// takes tells whether a row may stand behind those that are there.
func (x *modelTable) takes(r row) bool {
	if schema.Fits(x.schema, r) != api.OK || len(x.rows) == 4096 {
		return false
	}
	for _, other := range x.rows {
		if c, e := value.Compare(other[:x.schema.Key], r[:x.schema.Key]); e != api.OK || c >= 0 || x.clash(other, r) {
			return false
		}
	}
	return true
}

// clash takes it that the keys are unlike.
func (x *modelTable) clash(a, b row) bool {
	for _, y := range x.schema.Indexes {
		same := y.Unique
		for _, n := range y.Columns {
			same = same && a[n].Kind != api.VNull && valueBytes(a[n]) == valueBytes(b[n])
		}
		if same {
			return true
		}
	}
	return false
}

func valueBytes(v api.Value) string { return rowBody(v) }

// index is what chapter 15 says of an index of these rows.
func (x *modelTable) index(y api.Index) []row {
	var out []row
	for _, r := range x.rows {
		var entry row
		for _, n := range y.Columns {
			entry = append(entry, r[n])
		}
		out = append(out, append(entry, r[:x.schema.Key]...))
	}
	slices.SortFunc(out, func(a, b row) int {
		return slices.CompareFunc(a, b, func(v, w api.Value) int {
			c, _ := value.Compare(row{v}, row{w})
			return c
		})
	})
	return out
}

var partForm = regexp.MustCompile(`\Ackpt\.([0-9]+)\.([0-9]+)\z`)

// numberIn answers -1 of a name that is no part's.
func numberIn(name string) int {
	found := partForm.FindStringSubmatch(name)
	if found == nil {
		return -1
	}
	n, _ := new(big.Int).SetString(found[1], 10)
	if most := big.NewInt(1 << 40); n.Cmp(most) > 0 {
		n = most
	}
	return int(n.Int64())
}

// writing is what Write comes to with a disk that refuses nothing but for room: the number that it tells or its error, and the files behind each of its changes.
type writing struct {
	number int
	code   api.Errno
	steps  []map[string]string
}

// behind are the files behind so many changes.
func (w *writing) behind(files map[string]string, changes int) map[string]string {
	if changes == 0 {
		return files
	}
	return w.steps[changes-1]
}

func (w *writing) last(files map[string]string) map[string]string {
	return w.behind(files, len(w.steps))
}

// change makes another step of the last one.
func (w *writing) change(files map[string]string, do func(map[string]string)) {
	next := maps.Clone(w.last(files))
	if next == nil {
		next = map[string]string{}
	}
	do(next)
	w.steps = append(w.steps, next)
}

// write is two steps: appended, and synced. It answers false if there is no room.
func (w *writing) write(files map[string]string, name, data string) bool {
	if len(w.last(files)) >= 64 {
		w.number, w.code = 0, api.ErrLong
		return false
	}
	w.change(files, func(f map[string]string) { f[name] = data })
	w.change(files, func(map[string]string) {})
	return true
}

func modelWrite(files map[string]string, tables []modelTable, epoch int) *writing {
	if epoch < 0 || epoch > 1<<31 {
		return &writing{code: api.ErrRange}
	}
	bodies := modelBodies(tables)
	for _, b := range bodies {
		if len(b) > 65536 {
			return &writing{code: api.ErrLong}
		}
	}
	w := &writing{}
	for name := range files {
		w.number = max(w.number, numberIn(name)+1)
	}
	if w.number > 1<<31 {
		return &writing{code: api.ErrRange}
	}
	n := w.number
	parts := modelParts(bodies)
	for p, b := range parts {
		if !w.write(files, fmt.Sprintf("ckpt.%d.%d", n, p), b) {
			return w
		}
	}
	if _, left := files["manifest.new"]; left {
		w.change(files, func(f map[string]string) { delete(f, "manifest.new") })
	}
	b := manifest(uint64(n), uint64(len(parts)), uint64(len(bodies)), uint64(epoch))
	if !w.write(files, "manifest.new", b) {
		return w
	}
	w.change(files, func(f map[string]string) { delete(f, "manifest.new"); f["manifest"] = b })
	for _, name := range slices.Sorted(maps.Keys(files)) {
		if numberIn(name) >= 0 {
			w.change(files, func(f map[string]string) { delete(f, name) })
		}
	}
	return w
}

// Helpers of all tests.

func brief(x any) string {
	s := fmt.Sprintf("%+v", x)
	if len(s) > 200 {
		return fmt.Sprintf("%s.. (%d bytes)", s[:200], len(s))
	}
	return s
}

func is(t *testing.T, what string, got, want api.Errno) {
	t.Helper()
	if got != want {
		t.Errorf("%s: %d, not %d", what, got, want)
	}
}

// dataOf puts the rows in from the last one to the first, so that data put them in order themselves.
func dataOf(t *testing.T, tables []modelTable) *table.Data {
	t.Helper()
	d := table.New()
	for _, x := range slices.Backward(tables) {
		is(t, "Create "+x.schema.Name, d.Create(x.schema), api.OK)
		for _, r := range slices.Backward(x.rows) {
			if list, done, e := d.Apply([]api.Op{{Kind: api.OInsert, Table: x.schema.Name, Row: r}}); !done || e != api.OK {
				t.Fatalf("%s in %s: %s, %d", brief(r), x.schema.Name, brief(list), e)
			}
		}
	}
	return d
}

// rowsText goes by bytes, so that -0 and +0 are told apart.
func rowsText(rows []row) string {
	var out strings.Builder
	for _, r := range rows {
		for _, v := range r {
			fmt.Fprintf(&out, " %x", valueBytes(v)[2:])
		}
		out.WriteString(";")
	}
	return out.String()
}

// plainText is all that may be told of data.
func plainText(tables []modelTable) string {
	var out strings.Builder
	for _, x := range tables {
		fmt.Fprintf(&out, "%x:%s\n", schemaBody(x.schema), rowsText(x.rows))
		for _, y := range x.schema.Indexes {
			fmt.Fprintf(&out, "%s:%s\n", y.Name, rowsText(x.index(y)))
		}
	}
	return out.String()
}

// stateOf is plainText of what data tell.
func stateOf(t *testing.T, d *table.Data) string {
	t.Helper()
	var out strings.Builder
	for _, name := range d.Tables() {
		x, e := d.Schema(name)
		is(t, "Schema "+name, e, api.OK)
		rows, e := d.Rows(name)
		is(t, "Rows "+name, e, api.OK)
		fmt.Fprintf(&out, "%x:%s\n", schemaBody(x), rowsText(rows))
		for _, y := range x.Indexes {
			rows, e := d.Index(name, y.Name)
			is(t, "Index "+name+" "+y.Name, e, api.OK)
			fmt.Fprintf(&out, "%s:%s\n", y.Name, rowsText(rows))
		}
	}
	return out.String()
}

func filesOf(d *disk.Disk) map[string]string {
	files := map[string]string{}
	for _, name := range d.Names() {
		files[name], _ = d.Read(name)
	}
	return files
}

// laid is a disk with these files, all of them synced.
func laid(t *testing.T, files map[string]string) *disk.Disk {
	t.Helper()
	d := disk.New()
	for _, name := range slices.Sorted(maps.Keys(files)) {
		if e := cmp.Or(d.Append(name, files[name]), d.Sync(name)); e != api.OK {
			t.Fatal(name, e)
		}
	}
	return d
}

// with answers files with another one in addition, or in the place of one.
func with(files map[string]string, name, data string) map[string]string {
	out := map[string]string{name: data}
	for other, s := range files {
		if other != name {
			out[other] = s
		}
	}
	return out
}

func without(files map[string]string, names ...string) map[string]string {
	out := map[string]string{}
	for name, s := range files {
		if !slices.Contains(names, name) {
			out[name] = s
		}
	}
	return out
}

// holds fails when the disk's files are others than these.
func holds(t *testing.T, what string, d *disk.Disk, want map[string]string) {
	t.Helper()
	got := filesOf(d)
	for name, s := range want {
		if b, there := got[name]; !there || b != s {
			t.Errorf("%s: %s has %s, not %s (there: %t)", what, name, brief([]byte(b)), brief([]byte(s)), there)
		}
	}
	for name := range got {
		if _, there := want[name]; !there {
			t.Errorf("%s: there is a file %s", what, name)
		}
	}
}

// tells fails when Read tells other tables, or another epoch.
func tells(t *testing.T, what string, d *disk.Disk, tables []modelTable, epoch int) {
	t.Helper()
	data, n, e := ckpt.Read(d)
	if data == nil || n != epoch || e != api.OK {
		t.Errorf("%s: Read: %v, %d, %d, not %d", what, data, n, e, epoch)
		return
	}
	if got, want := stateOf(t, data), plainText(tables); got != want {
		t.Errorf("%s: Read: %s, not %s", what, brief(got), brief(want))
	}
}

// refuses fails when Read takes a disk, or changes it.
func refuses(t *testing.T, what string, d *disk.Disk, want api.Errno) {
	t.Helper()
	before := filesOf(d)
	if data, n, e := ckpt.Read(d); data != nil || n != 0 || e != want {
		t.Errorf("%s: Read: %v, %d, %d, not %d", what, data, n, e, want)
	}
	if !maps.Equal(before, filesOf(d)) {
		t.Errorf("%s: files have changed", what)
	}
}

// corrupt is refuses of a checkpoint of these frames, in one part.
func corrupt(t *testing.T, what string, bodies ...string) {
	t.Helper()
	refuses(t, what, laid(t, checkpoint(bodies...)), api.ErrCorrupt)
}

// checkpoint are the files of one with these frames, in one part, of the epoch 3.
func checkpoint(bodies ...string) map[string]string {
	return map[string]string{"manifest": manifest(0, 1, uint64(len(bodies)), 3), "ckpt.0.0": frames(bodies...)}
}

// takes holds that these frames are a checkpoint, of these tables.
func takes(t *testing.T, what string, tables []modelTable, bodies ...string) {
	t.Helper()
	tells(t, what, laid(t, checkpoint(bodies...)), tables, 3)
}
