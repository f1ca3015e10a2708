package recover_test

import (
	"cmp"
	"encoding/binary"
	"fmt"
	"hash/crc32"
	"maps"
	"math/big"
	"regexp"
	"slices"
	"strings"
	"testing"

	"hopper/api"
	"hopper/disk"
	"hopper/key"
	"hopper/mess"
	back "hopper/recover"
	"hopper/schema"
	"hopper/table"
	"hopper/value"
)

// The model is the chapters' words, written out as plainly as may be: frames by the library's CRC-32, names by patterns, tables as lists of rows to which write by write is done and that are looked at in the end, and a Start that is a list of changes.

type row = []api.Value

type modelTable struct {
	schema api.Table
	rows   []row
}

func num(n int64) api.Value { return api.Value{Kind: api.VInt, N: n} }

func txt(s string) api.Value { return api.Value{Kind: api.VText, S: s} }

func flo(x float64) api.Value { return api.Value{Kind: api.VFloat, C: complex(x, 0)} }

func pair(c complex128) api.Value { return api.Value{Kind: api.VPair, C: c} }

func yes(n int64) api.Value { return api.Value{Kind: api.VBool, N: n} }

func null() api.Value { return api.Value{} }

// keyOf are the bytes of a key.
func keyOf(values ...api.Value) string {
	s, e := key.Encode(values)
	if e != api.OK {
		panic(e)
	}
	return s
}

// put is a write of a row whose first values are its key.
func put(name string, key int, values ...api.Value) api.Write {
	return api.Write{Table: name, Key: keyOf(values[:key]...), Row: values}
}

func gone(name string, key ...api.Value) api.Write {
	return api.Write{Table: name, Key: keyOf(key...), Gone: true}
}

func tidOf(epoch, seq int) uint64 { return uint64(epoch)*(1<<23) + uint64(seq)*8 }

func epochOf(x api.Entry) int { return int(x.Tid / (1 << 23)) }

func entry(epoch, seq int, writes ...api.Write) api.Entry {
	return api.Entry{Tid: tidOf(epoch, seq), Writes: writes}
}

// The forms of files.

// word is a number: eight bytes, the lowest first.
func word(n uint64) string { return string(binary.LittleEndian.AppendUint64(nil, n)) }

func text(s string) string { return word(uint64(len(s))) + s }

func flag(yes bool) string {
	if yes {
		return "\x01"
	}
	return "\x00"
}

func framed(b string) string {
	s := string(binary.LittleEndian.AppendUint32(nil, uint32(len(b)))) + b
	return s + string(binary.LittleEndian.AppendUint32(nil, crc32.ChecksumIEEE([]byte(s))))
}

func frames(bodies ...string) string {
	out := make([]string, len(bodies))
	for i, b := range bodies {
		out[i] = framed(b)
	}
	return strings.Join(out, "")
}

func manifest(numbers ...uint64) string {
	out := ""
	for _, n := range numbers {
		out += word(n)
	}
	return framed(out)
}

func schemaBody(x api.Table) string {
	out := []string{"\x01", text(x.Name), word(uint64(len(x.Columns)))}
	for _, c := range x.Columns {
		out = append(out, text(c.Name), word(uint64(c.Kind)))
	}
	out = append(out, word(uint64(x.Key)), word(uint64(len(x.Indexes))))
	for _, y := range x.Indexes {
		out = append(out, text(y.Name), word(uint64(len(y.Columns))))
		for _, n := range y.Columns {
			out = append(out, word(uint64(n)))
		}
		out = append(out, flag(y.Unique))
	}
	return strings.Join(out, "")
}

func rowBytes(values ...api.Value) string {
	s, e := value.Encode(values)
	if e != api.OK {
		panic(e)
	}
	return s
}

func modelBodies(tables []modelTable) (out []string) {
	for _, x := range tables {
		out = append(out, schemaBody(x.schema))
		for _, r := range x.rows {
			out = append(out, "\x02"+rowBytes(r...))
		}
	}
	return out
}

// modelParts lays frames from the end of one part to the next, whenever there would be too many bytes.
func modelParts(bodies []string) (parts []string) {
	for i, b := range bodies {
		last := len(parts) - 1
		if i == 0 || len(parts[last])+len(b)+8 > 262144 {
			parts = append(parts, framed(b))
		} else {
			parts[last] += framed(b)
		}
	}
	return parts
}

func entryBytes(x api.Entry) string {
	out := []string{word(x.Tid), word(uint64(len(x.Writes)))}
	for _, w := range x.Writes {
		out = append(out, text(w.Table), text(w.Key), flag(w.Gone), text(rowBytes(w.Row...)))
	}
	return strings.Join(out, "")
}

// logged is the file of these entries.
func logged(list ...api.Entry) string {
	out := make([]string, len(list))
	for i, x := range list {
		out[i] = framed(entryBytes(x))
	}
	return strings.Join(out, "")
}

// marked is the file of these durable epochs.
func marked(epochs ...int) string {
	out := ""
	for _, n := range epochs {
		out += framed(word(uint64(n)))
	}
	return out
}

// checkpoint are the files of one of that number.
func checkpoint(number int, tables []modelTable, epoch int) map[string]string {
	bodies := modelBodies(tables)
	parts := modelParts(bodies)
	files := map[string]string{"manifest": manifest(uint64(number), uint64(len(parts)), uint64(len(bodies)), uint64(epoch))}
	for p, b := range parts {
		files[fmt.Sprintf("ckpt.%d.%d", number, p)] = b
	}
	return files
}

// What a disk holds.

// modelFrames answers the bodies of frames, and what is left behind them.
func modelFrames(b string) (bodies []string, rest string) {
	for len(b) >= 8 {
		n := int(binary.LittleEndian.Uint32([]byte(b[:4])))
		if n > 65536 || len(b) < n+8 || framed(b[4:4+n]) != b[:n+8] {
			break
		}
		bodies, b = append(bodies, b[4:4+n]), b[n+8:]
	}
	return bodies, b
}

// endsEarly tells whether what is left behind frames may have been torn.
func endsEarly(rest string) bool {
	if len(rest) < 4 {
		return true
	}
	n := int(binary.LittleEndian.Uint32([]byte(rest[:4])))
	return n <= 65536 && len(rest) < n+8
}

// modelCheckpoint answers no tables, and 0, if there is none.
func modelCheckpoint(files map[string]string) (tables []modelTable, epoch int, good bool) {
	b, there := files["manifest"]
	if !there {
		return nil, 0, true
	}
	list, rest := modelFrames(b)
	if rest != "" || len(list) != 1 || len(list[0]) != 32 {
		return nil, 0, false
	}
	var n [4]uint64
	for i := range n {
		n[i] = binary.LittleEndian.Uint64([]byte(list[0][8*i:]))
	}
	if n[0] > 1<<31 || n[1] > 1<<24 || n[2] > 1<<24 || n[3] > 1<<31 {
		return nil, 0, false
	}
	var all []string
	for p := range n[1] {
		b, there := files[fmt.Sprintf("ckpt.%d.%d", n[0], p)]
		list, rest := modelFrames(b)
		if !there || rest != "" {
			return nil, 0, false
		}
		all = append(all, list...)
	}
	tables, good = modelTables(all)
	return tables, int(n[3]), good && uint64(len(all)) == n[2]
}

func modelTables(bodies []string) (tables []modelTable, good bool) {
	for _, body := range bodies {
		last := len(tables) - 1
		switch {
		case strings.HasPrefix(body, "\x01"):
			x, e := mess.Asked(word(api.MCreate) + word(0) + body[1:])
			if e != api.OK || schema.Check(x.Table) != api.OK || last >= 0 && tables[last].schema.Name >= x.Table.Name {
				return nil, false
			}
			tables = append(tables, modelTable{schema: x.Table})
		case strings.HasPrefix(body, "\x02") && last >= 0:
			r, f := value.Decode(body[1:])
			if f.Code != api.OK || schema.Fits(tables[last].schema, r) != api.OK {
				return nil, false
			}
			if many := len(tables[last].rows); many > 0 && tables[last].key(tables[last].rows[many-1]) >= tables[last].key(r) {
				return nil, false
			}
			tables[last].rows = append(tables[last].rows, r)
		default:
			return nil, false
		}
	}
	return tables, !slices.ContainsFunc(tables, func(x modelTable) bool { return !x.sound() })
}

func (x *modelTable) key(r row) string { return keyOf(r[:x.schema.Key]...) }

// sound tells whether no two rows clash, and there are not too many.
func (x *modelTable) sound() bool {
	for _, y := range x.schema.Indexes {
		seen := map[string]bool{}
		for _, r := range x.rows {
			values, full := "", true
			for _, n := range y.Columns {
				values += keyOf(r[n])
				full = full && r[n].Kind != api.VNull
			}
			if y.Unique && full && seen[values] {
				return false
			}
			seen[values] = full
		}
	}
	return len(x.rows) <= 4096
}

var logForm = regexp.MustCompile(`\Alog\.([0-9]+)\.([0-9]+)\z`)

var partForm = regexp.MustCompile(`\Ackpt\.([0-9]+)\.([0-9]+)\z`)

// numberIn answers a number of a name of that form, or -1 of another one.
func numberIn(form *regexp.Regexp, which int, name string) int {
	found := form.FindStringSubmatch(name)
	if found == nil {
		return -1
	}
	n, _ := new(big.Int).SetString(found[which], 10)
	if most := big.NewInt(1 << 40); n.Cmp(most) > 0 {
		n = most
	}
	return int(n.Int64())
}

func generationIn(name string) int { return numberIn(logForm, 2, name) }

// modelEntry reads fields wherever there are bytes for them, and takes what comes of it for the entry, if its bytes are these.
func modelEntry(b string) (x api.Entry, good bool) {
	all := b
	take := func(size uint64) string {
		taken := b[:min(size, uint64(len(b)))]
		b = b[len(taken):]
		return taken
	}
	number := func() uint64 {
		var eight [8]byte
		copy(eight[:], take(8))
		return binary.LittleEndian.Uint64(eight[:])
	}
	x.Tid = number()
	for many := number(); many > 0 && b != ""; many-- {
		w := api.Write{Table: take(number()), Key: take(number()), Gone: take(1) == "\x01"}
		w.Row, _ = value.Decode(take(number()))
		good = len(w.Table) <= 4096 && len(w.Key) <= 4096 && (!w.Gone || len(w.Row) == 0)
		x.Writes = append(x.Writes, w)
		if !good {
			return x, false
		}
	}
	good = good && x.Tid>>23 <= 1<<31 && x.Tid%8 == 0 && len(x.Writes) <= 4096
	return x, good && entryBytes(x) == all
}

func modelLoad(files map[string]string) (list []api.Entry, durable int, good bool) {
	bodies, rest := modelFrames(files["epoch"])
	good = endsEarly(rest)
	for _, s := range bodies {
		if len(s) != 8 || binary.LittleEndian.Uint64([]byte(s)) > 1<<31 || binary.LittleEndian.Uint64([]byte(s)) <= uint64(durable) {
			return nil, 0, false
		}
		durable = int(binary.LittleEndian.Uint64([]byte(s)))
	}
	for _, name := range slices.Sorted(maps.Keys(files)) {
		if generationIn(name) < 0 {
			continue
		}
		bodies, rest := modelFrames(files[name])
		good = good && endsEarly(rest)
		for _, s := range bodies {
			x, fine := modelEntry(s)
			good = good && fine
			if epochOf(x) <= durable {
				list = append(list, x)
			}
		}
	}
	slices.SortStableFunc(list, func(a, b api.Entry) int { return cmp.Compare(a.Tid, b.Tid) })
	return list, durable, good
}

// modelHeld is what a disk holds, and the durable epoch.
type modelHeld struct {
	tables         []modelTable
	epoch, durable int
	code           api.Errno
}

func modelRead(files map[string]string) modelHeld {
	tables, epoch, good := modelCheckpoint(files)
	entries, durable, fine := modelLoad(files)
	if !good || !fine {
		return modelHeld{code: api.ErrCorrupt}
	}
	for _, x := range entries {
		for _, w := range x.Writes {
			if epochOf(x) > epoch && !modelWrite(tables, w) {
				return modelHeld{code: api.ErrCorrupt}
			}
		}
	}
	for _, x := range tables {
		if !x.sound() {
			return modelHeld{code: api.ErrCorrupt}
		}
		slices.SortFunc(x.rows, func(a, b row) int { return cmp.Compare(x.key(a), x.key(b)) })
	}
	return modelHeld{tables, max(epoch, durable), durable, api.OK}
}

// modelWrite answers false, if a write does not fit.
func modelWrite(tables []modelTable, w api.Write) bool {
	at := slices.IndexFunc(tables, func(x modelTable) bool { return x.schema.Name == w.Table })
	if at < 0 {
		return false
	}
	x := &tables[at]
	values, f := key.Decode(w.Key)
	if f.Code != api.OK || len(values) != x.schema.Key {
		return false
	}
	// A key with nulls behind it fits as a row, if its own values do.
	if schema.Fits(x.schema, append(values, make(row, len(x.schema.Columns)-len(values))...)) != api.OK {
		return false
	}
	if !w.Gone && (schema.Fits(x.schema, w.Row) != api.OK || x.key(w.Row) != w.Key) {
		return false
	}
	x.rows = slices.DeleteFunc(x.rows, func(r row) bool { return x.key(r) == w.Key })
	if !w.Gone {
		x.rows = append(x.rows, w.Row)
	}
	return true
}

// index is what chapter 15 says of an index of these rows.
func (x *modelTable) index(y api.Index) []row {
	var out []row
	for _, r := range x.rows {
		var values row
		for _, n := range y.Columns {
			values = append(values, r[n])
		}
		out = append(out, append(values, r[:x.schema.Key]...))
	}
	slices.SortFunc(out, func(a, b row) int {
		return slices.CompareFunc(a, b, func(v, w api.Value) int { return cmp.Compare(keyOf(v), keyOf(w)) })
	})
	return out
}

// What Start does.

// step is a change: the files behind it, and the one of which not all bytes are safe then, if there is one.
type step struct {
	files map[string]string
	name  string
	safe  int
}

// starting is what Start comes to with a disk that refuses nothing but for room.
type starting struct {
	held       modelHeld
	code       api.Errno
	generation int
	steps      []step
}

// behind are the files behind so many changes.
func (s *starting) behind(changes int) map[string]string { return s.steps[changes].files }

func (s *starting) last() map[string]string { return s.behind(len(s.steps) - 1) }

// changes are how many there are.
func (s *starting) changes() int { return len(s.steps) - 1 }

// change makes another step of the last one, unless something was refused.
func (s *starting) change(do func(map[string]string)) *step {
	if s.code == api.OK {
		files := both(s.last())
		do(files)
		s.steps = append(s.steps, step{files: files})
	}
	return &s.steps[len(s.steps)-1]
}

// write appends, and syncs.
func (s *starting) write(name, data string) {
	was, there := s.last()[name]
	if !there && len(s.last()) >= 64 || len(was)+len(data) > 262144 {
		s.code = cmp.Or(s.code, api.ErrLong)
	}
	if s.code != api.OK {
		return
	}
	x := s.change(func(f map[string]string) { f[name] = was + data })
	x.name, x.safe = name, len(was)
	s.change(func(map[string]string) {})
}

func (s *starting) remove(name string) {
	if _, there := s.last()[name]; there {
		s.change(func(f map[string]string) { delete(f, name) })
	}
}

func (s *starting) rename(from, to string) {
	s.change(func(f map[string]string) { f[to] = f[from]; delete(f, from) })
}

// renew puts a new file in the place of another one.
func (s *starting) renew(name, data string) {
	s.remove(name + ".new")
	s.write(name+".new", data)
	s.rename(name+".new", name)
}

// The files that Start is given are behind no change.
func modelStart(files map[string]string, workers int) *starting {
	s := &starting{held: modelRead(files), steps: []step{{files: files}}}
	s.code = s.held.code
	if workers < 1 || workers > 16 {
		s.code = cmp.Or(s.code, api.ErrRange)
	}
	if s.code != api.OK {
		return s
	}
	s.checkpoint()
	s.open()
	for _, name := range slices.Sorted(maps.Keys(files)) {
		if generationIn(name) >= 0 {
			s.remove(name)
		}
	}
	if s.held.epoch > s.held.durable {
		s.write("epoch", marked(s.held.epoch))
	}
	return s
}

func (s *starting) checkpoint() {
	files, number := s.last(), 0
	for name := range files {
		number = max(number, numberIn(partForm, 1, name)+1)
	}
	if number > 1<<31 {
		s.code = api.ErrRange
		return
	}
	made := checkpoint(number, s.held.tables, s.held.epoch)
	for p := range len(made) - 1 {
		name := fmt.Sprintf("ckpt.%d.%d", number, p)
		s.write(name, made[name])
	}
	s.renew("manifest", made["manifest"])
	for _, name := range slices.Sorted(maps.Keys(files)) {
		if numberIn(partForm, 1, name) >= 0 {
			s.remove(name)
		}
	}
}

func (s *starting) open() {
	for name := range s.last() {
		s.generation = max(s.generation, generationIn(name)+1)
	}
	if s.held.durable > 0 {
		s.renew("epoch", marked(s.held.durable))
	} else {
		s.remove("epoch")
	}
}

// Helpers of all tests.

func brief(x any) string {
	s := fmt.Sprintf("%+v", x)
	if len(s) > 200 {
		return fmt.Sprintf("%s.. (%d bytes)", s[:200], len(s))
	}
	return s
}

func is(t *testing.T, what string, got, want api.Errno) {
	t.Helper()
	if got != want {
		t.Errorf("%s: %d, not %d", what, got, want)
	}
}

// dataOf puts the rows in from the last one to the first, so that data put them in order themselves.
func dataOf(t *testing.T, tables []modelTable) *table.Data {
	t.Helper()
	d := table.New()
	for _, x := range slices.Backward(tables) {
		is(t, "Create "+x.schema.Name, d.Create(x.schema), api.OK)
		for _, r := range slices.Backward(x.rows) {
			if list, done, e := d.Apply([]api.Op{{Kind: api.OInsert, Table: x.schema.Name, Row: r}}); !done || e != api.OK {
				t.Fatalf("%s in %s: %s, %d", brief(r), x.schema.Name, brief(list), e)
			}
		}
	}
	return d
}

// rowsText goes by bytes, so that -0 and +0 are told apart.
func rowsText(rows []row) string {
	var out strings.Builder
	for _, r := range rows {
		for _, v := range r {
			fmt.Fprintf(&out, " %x", keyOf(v))
		}
		out.WriteString(";")
	}
	return out.String()
}

// plainText is all that may be told of data.
func plainText(tables []modelTable) string {
	var out strings.Builder
	for _, x := range tables {
		fmt.Fprintf(&out, "%x:%s\n", schemaBody(x.schema), rowsText(x.rows))
		for _, y := range x.schema.Indexes {
			fmt.Fprintf(&out, "%s:%s\n", y.Name, rowsText(x.index(y)))
		}
	}
	return out.String()
}

// stateOf is plainText of what data tell.
func stateOf(t *testing.T, d *table.Data) string {
	t.Helper()
	var out strings.Builder
	for _, name := range d.Tables() {
		x, e := d.Schema(name)
		is(t, "Schema "+name, e, api.OK)
		rows, e := d.Rows(name)
		is(t, "Rows "+name, e, api.OK)
		fmt.Fprintf(&out, "%x:%s\n", schemaBody(x), rowsText(rows))
		for _, y := range x.Indexes {
			rows, e := d.Index(name, y.Name)
			is(t, "Index "+name+" "+y.Name, e, api.OK)
			fmt.Fprintf(&out, "%s:%s\n", y.Name, rowsText(rows))
		}
	}
	return out.String()
}

func filesOf(d *disk.Disk) map[string]string {
	files := map[string]string{}
	for _, name := range d.Names() {
		files[name], _ = d.Read(name)
	}
	return files
}

// laid is a disk with these files, all of them synced.
func laid(t *testing.T, files map[string]string) *disk.Disk {
	t.Helper()
	d := disk.New()
	for _, name := range slices.Sorted(maps.Keys(files)) {
		if e := cmp.Or(d.Append(name, files[name]), d.Sync(name)); e != api.OK {
			t.Fatal(name, e)
		}
	}
	return d
}

// with answers files with another one in addition, or in the place of one.
func with(files map[string]string, name, data string) map[string]string {
	return both(files, map[string]string{name: data})
}

// both answers the files of all; a later one is in the place of an earlier one.
func both(lists ...map[string]string) map[string]string {
	out := map[string]string{}
	for _, files := range lists {
		maps.Copy(out, files)
	}
	return out
}

func without(files map[string]string, names ...string) map[string]string {
	out := maps.Clone(files)
	maps.DeleteFunc(out, func(name, _ string) bool { return slices.Contains(names, name) })
	return out
}

// holds fails when the disk's files are others than these.
func holds(t *testing.T, what string, d *disk.Disk, want map[string]string) {
	t.Helper()
	got := filesOf(d)
	for name, s := range want {
		if b, there := got[name]; !there || b != s {
			t.Errorf("%s: %s has %s, not %s (there: %t)", what, name, brief([]byte(b)), brief([]byte(s)), there)
		}
	}
	for name := range got {
		if _, there := want[name]; !there {
			t.Errorf("%s: there is a file %s", what, name)
		}
	}
}

// told is all that Read tells.
type told struct {
	state string
	epoch int
	code  api.Errno
}

// readOf reads twice, since nothing is to change by it.
func readOf(t *testing.T, d *disk.Disk) told {
	t.Helper()
	first := readOnce(t, d)
	if again := readOnce(t, d); again != first {
		t.Errorf("Read: %s, then %s", brief(first), brief(again))
	}
	return first
}

func readOnce(t *testing.T, d *disk.Disk) told {
	t.Helper()
	data, epoch, e := back.Read(d)
	if e != api.OK {
		if data != nil || epoch != 0 {
			t.Error("beside an error:", data, epoch, e)
		}
		return told{code: e}
	}
	return told{stateOf(t, data), epoch, e}
}

func (h modelHeld) told() told { return told{plainText(h.tables), h.epoch, h.code} }

// tells fails when Read tells other tables, or another epoch, or changes files.
func tells(t *testing.T, what string, d *disk.Disk, tables []modelTable, epoch int) {
	t.Helper()
	before := filesOf(d)
	got, want := readOf(t, d), told{plainText(tables), epoch, api.OK}
	if got != want {
		t.Errorf("%s: Read: %s, not %s", what, brief(got), brief(want))
	}
	holds(t, what, d, before)
}

// refuses fails when Read or Start takes a disk, or changes it; whatever the workers are.
func refuses(t *testing.T, what string, d *disk.Disk, want api.Errno) {
	t.Helper()
	before := filesOf(d)
	if got := readOf(t, d); got != (told{code: want}) {
		t.Errorf("%s: Read: %s, not %d", what, brief(got), want)
	}
	for _, workers := range []int{-1, 0, 1, api.MaxWorkers, api.MaxWorkers + 1} {
		if data, l, n, e := back.Start(d, workers); data != nil || l != nil || n != 0 || e != want {
			t.Errorf("%s: Start with %d: %v, %v, %d, %d, not %d", what, workers, data, l, n, e, want)
		}
	}
	holds(t, what, d, before)
}
