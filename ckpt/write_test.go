package ckpt_test

import (
	"fmt"
	"math"
	"strings"
	"testing"

	"hopper/api"
	"hopper/ckpt"
	"hopper/disk"
	"hopper/table"
)

// 19.2: a checkpoint is written.

// writes holds that Write does just what the model says, and that its checkpoint is read then, behind a crash, too.
func writes(t *testing.T, what string, d *disk.Disk, tables []modelTable, epoch int) {
	t.Helper()
	files := filesOf(d)
	want := modelWrite(files, tables, epoch)
	data := dataOf(t, tables)
	before := stateOf(t, data)
	n, e := ckpt.Write(d, data, epoch)
	if n != want.number || e != want.code {
		t.Errorf("%s: Write: %d, %d, not %d, %d", what, n, e, want.number, want.code)
	}
	holds(t, what, d, want.last(files))
	if stateOf(t, data) != before {
		t.Errorf("%s: the data have changed", what)
	}
	if want.code != api.OK {
		return
	}
	tells(t, what, d, tables, epoch)
	d.Crash([]int{-1, -1, -1})
	holds(t, "a crash behind: "+what, d, want.last(files))
	tells(t, "a crash behind: "+what, d, tables, epoch)
}

// notWritten holds that Write refuses, and changes nothing.
func notWritten(t *testing.T, what string, d *disk.Disk, data *table.Data, epoch int, want api.Errno) {
	t.Helper()
	var files map[string]string
	if d != nil {
		files = filesOf(d)
	}
	if n, e := ckpt.Write(d, data, epoch); n != 0 || e != want {
		t.Errorf("%s: Write: %d, %d, not %d", what, n, e, want)
	}
	if d != nil {
		holds(t, what, d, files)
	}
}

func TestExample(t *testing.T) {
	d := disk.New()
	data := dataOf(t, chapters())
	if n, e := ckpt.Write(d, data, 3); n != 0 || e != api.OK {
		t.Error(n, e)
	}
	schema := "\x01" + text("t") + word(1) + text("a") + word(2) + word(1) + word(0)
	part := framed(schema) + framed("\x02\x01\x02"+word(1)) + framed("\x02\x01\x02"+word(2))
	holds(t, "first", d, map[string]string{"ckpt.0.0": part, "manifest": framed(word(0) + word(1) + word(3) + word(3))})
	if n, e := ckpt.Write(d, data, 3); n != 1 || e != api.OK {
		t.Error(n, e)
	}
	holds(t, "again", d, map[string]string{"ckpt.1.0": part, "manifest": framed(word(1) + word(1) + word(3) + word(3))})
	tells(t, "read", d, chapters(), 3)
	d = disk.New()
	if n, e := ckpt.Write(d, table.New(), 8); n != 0 || e != api.OK {
		t.Error(n, e)
	}
	holds(t, "no tables", d, map[string]string{"manifest": framed(word(0) + word(0) + word(0) + word(8))})
	tells(t, "no tables", d, nil, 8)
}

func TestWriteOfNothing(t *testing.T) {
	long := dataOf(t, []modelTable{{wide("t"), []row{sized(1, api.MaxFrame+1)}}})
	full := laid(t, map[string]string{"ckpt.2147483648.0": "", "manifest.new": "x"})
	for _, epoch := range []int{math.MinInt, -1, 0, 3, api.MaxEpoch, api.MaxEpoch + 1, math.MaxInt} {
		notWritten(t, "neither", nil, nil, epoch, api.ErrNone)
		for _, data := range []*table.Data{table.New(), dataOf(t, mixed()), long} {
			notWritten(t, "no disk", nil, data, epoch, api.ErrNone)
		}
		for _, d := range []*disk.Disk{disk.New(), full, laid(t, checkpoint(modelBodies(chapters())...))} {
			notWritten(t, "no data", d, nil, epoch, api.ErrNone)
		}
	}
}

func TestEpochs(t *testing.T) {
	for _, epoch := range []int{0, 1, 3, 255, 256, 1 << 16, 1<<31 - 1, api.MaxEpoch} {
		for _, tables := range [][]modelTable{nil, chapters()} {
			writes(t, fmt.Sprint("the epoch ", epoch), disk.New(), tables, epoch)
		}
	}
	long := dataOf(t, []modelTable{{wide("t"), []row{sized(1, api.MaxFrame+1)}}})
	full := laid(t, map[string]string{"ckpt.2147483648.0": ""})
	for _, epoch := range []int{math.MinInt, math.MinInt32, -2, -1, api.MaxEpoch + 1, 1 << 32, 1<<32 + 1, math.MaxInt} {
		for _, d := range []*disk.Disk{disk.New(), full, laid(t, map[string]string{"manifest": manifest(0, 0, 0, 7), "manifest.new": "x"})} {
			notWritten(t, fmt.Sprint("the epoch ", epoch), d, table.New(), epoch, api.ErrRange)
			// Ahead of the frame that is too long.
			notWritten(t, fmt.Sprint("the epoch ", epoch), d, long, epoch, api.ErrRange)
		}
	}
	// Epochs may fall from one Write to the next.
	d := disk.New()
	for _, epoch := range []int{9, 9, 3, 0, api.MaxEpoch, 0} {
		writes(t, "one behind the other", d, chapters(), epoch)
	}
}

func TestDataOfAllSorts(t *testing.T) {
	most := wide("most")
	most.Name = strings.Repeat("n", api.MaxName)
	for n := range most.Columns {
		most.Columns[n].Name = fmt.Sprintf("%032d", n)
	}
	most.Columns[0].Kind = api.VInt
	for n := range 8 {
		x := api.Index{Name: fmt.Sprintf("%032d", n), Unique: n%2 == 0}
		for m := range api.MaxRow {
			x.Columns = append(x.Columns, (n+m)%api.MaxRow)
		}
		most.Indexes = append(most.Indexes, x)
	}
	for _, x := range []struct {
		what   string
		tables []modelTable
	}{
		{"no tables", nil},
		{"a table without rows", []modelTable{{plain("t"), nil}}},
		{"tables without rows", []modelTable{{plain("a"), nil}, {example("b", true), nil}, {kinds("c", 3), nil}}},
		{"one row", []modelTable{{plain("t"), []row{{num(1)}}}}},
		{"all sorts", mixed()},
		{"several parts", heavy()},
		{"the longest schema", []modelTable{{most, []row{sized(1, 5000), sized(2, 5000)}}}},
		{"rows of one table alone", []modelTable{{plain("a"), nil}, {plain("b"), []row{{num(1)}}}, {plain("c"), nil}}},
	} {
		d := disk.New()
		writes(t, x.what, d, x.tables, 3)
		writes(t, "again: "+x.what, d, x.tables, 4)
		writes(t, "others behind: "+x.what, d, chapters(), 5)
		writes(t, "behind others: "+x.what, d, x.tables, 6)
		writes(t, "none behind: "+x.what, d, nil, 6)
		writes(t, "behind none: "+x.what, d, x.tables, 7)
	}
}

// What was put, changed and taken away again is written as it is then.
func TestDataThatHaveChanged(t *testing.T) {
	data := dataOf(t, []modelTable{{example("t", true), []row{{num(1), txt("x")}, {num(2), txt("y")}, {num(3), txt("z")}}}, {plain("u"), []row{{num(1)}}}, {plain("v"), nil}})
	data.Apply([]api.Op{
		{Kind: api.ODelete, Table: "t", Key: row{num(1)}}, {Kind: api.OPut, Table: "t", Row: row{num(2), txt("x")}},
		{Kind: api.OPut, Table: "t", Row: row{num(-4), txt("y")}}, {Kind: api.OPut, Table: "v", Row: row{num(9)}},
	})
	// A batch that does not come to its end leaves nothing.
	data.Apply([]api.Op{{Kind: api.OPut, Table: "v", Row: row{num(8)}}, {Kind: api.OGet, Table: "w"}})
	data.Drop("u")
	data.Create(plain("s"))
	want := []modelTable{{plain("s"), nil}, {example("t", true), []row{{num(-4), txt("y")}, {num(2), txt("x")}, {num(3), txt("z")}}}, {plain("v"), []row{{num(9)}}}}
	d := disk.New()
	if n, e := ckpt.Write(d, data, 3); n != 0 || e != api.OK {
		t.Error(n, e)
	}
	holds(t, "as it is", d, modelWrite(nil, want, 3).last(nil))
	tells(t, "as it is", d, want, 3)
}

// Many tables, and many rows.
func TestManyRows(t *testing.T) {
	t.Parallel()
	var tables []modelTable
	for n := range 4 {
		x := modelTable{schema: example(fmt.Sprintf("t%d", n), n%2 == 0)}
		for m := range int64(api.MaxItems) {
			x.rows = append(x.rows, row{num(m*5 - 1000), txt(fmt.Sprintf("%040d", m*7919%api.MaxItems))})
		}
		tables = append(tables, x)
	}
	if many := len(modelParts(modelBodies(tables))); many < 4 {
		t.Fatal("few parts:", many)
	}
	d := disk.New()
	writes(t, "many rows", d, tables, 3)
	writes(t, "many rows again", d, tables, 4)
}

// parted are rows of wide whose frames have the given sizes in all, behind the schema's.
func parted(bodies ...int) []modelTable {
	x := modelTable{schema: wide("t")}
	for n, size := range bodies {
		x.rows = append(x.rows, sized(int64(n), size))
	}
	return []modelTable{x}
}

// A part takes a frame, if just as many bytes as may be stand there then, and not one more.
func TestFullParts(t *testing.T) {
	first := len(framed(schemaBody(wide("t"))))
	const body = 65500
	left := api.MaxBytes - first - 3*(body+8)
	for _, x := range []struct {
		sizes []int
		want  []int // the bytes of each part
	}{
		{[]int{body, body, body, left - 8 - 1}, []int{api.MaxBytes - 1}},
		{[]int{body, body, body, left - 8}, []int{api.MaxBytes}},
		{[]int{body, body, body, left - 8 + 1}, []int{api.MaxBytes - left, left + 1}},
		{[]int{body, body, body, left - 8, 5000}, []int{api.MaxBytes, 5008}},
		{[]int{body, body, body, left - 8, least}, []int{api.MaxBytes, least + 8}},
		{[]int{body, body, body, left - 8 + 1, 5000}, []int{api.MaxBytes - left, left + 1 + 5008}},
		{[]int{65536, 65536, 65536, 65528}, []int{first + 3*65544, 65536}},
		{[]int{65536, 65536, 65536, 65536, 65536, 65536, 65536, 65536}, []int{first + 3*65544, 3 * 65544, 2 * 65544}},
		// Frames stay in their order: a short one does not fill a gap that a long one has left.
		{[]int{65536, 65536, 65000, 65536, 100, 65536, 65536, 65536, 100}, []int{first + 2*65544 + 65008, 65544 + 108 + 2*65544, 65544 + 108}},
	} {
		tables := parted(x.sizes...)
		d := disk.New()
		writes(t, fmt.Sprint(x.sizes), d, tables, 3)
		var got []int
		for n := range len(d.Names()) - 1 {
			s, _ := d.Read(fmt.Sprintf("ckpt.0.%d", n))
			got = append(got, len(s))
		}
		if fmt.Sprint(got) != fmt.Sprint(x.want) {
			t.Errorf("%v: parts of %v bytes, not %v", x.sizes, got, x.want)
		}
	}
	// Just four frames of a quarter of a part, wherever they begin.
	x := parted(65528, 65528, 65528, 65528, 65528, 65528, 65528, 65528, 65528)
	writes(t, "quarters", disk.New(), x, 3)
}

// What one frame is made of has at most api.MaxFrame bytes, the first byte included.
func TestLongFrames(t *testing.T) {
	for _, size := range []int{api.MaxFrame - 1, api.MaxFrame} {
		writes(t, fmt.Sprint(size), disk.New(), parted(size), 3)
		writes(t, fmt.Sprint(size), disk.New(), parted(100, size, 100), 3)
	}
	older := checkpoint(modelBodies(chapters())...)
	for _, size := range []int{api.MaxFrame + 1, api.MaxFrame + 2, 100000, 1 + 1 + 9 + 31*4099} {
		for _, tables := range [][]modelTable{parted(size), parted(100, size, 100), append(chapters(), parted(size)[0]), append(heavy(), parted(100, 100, 100, 100, size)[0])} {
			if len(tables) == 2 {
				tables[1].schema.Name = "u"
			}
			data := dataOf(t, tables)
			for _, files := range []map[string]string{nil, older, with(older, "manifest.new", "x"), {"ckpt.2147483647.0": "x"}, {"ckpt.2147483648.0": "x"}, {"ckpt.99999999999999999999.0": ""}} {
				// Nothing has changed; it comes ahead of what is refused of N, and of a disk that is down.
				d := laid(t, files)
				notWritten(t, fmt.Sprint(size), d, data, 3, api.ErrLong)
				d.Fuse(0)
				notWritten(t, fmt.Sprint(size), d, data, 3, api.ErrLong)
				d.Append("a", "")
				notWritten(t, fmt.Sprint(size), d, data, 3, api.ErrLong)
			}
		}
	}
}

// partNames are ckpt., digits, a point, digits, with the number that they count as.
func partNames() map[string]int {
	many := strings.Repeat("9", 25)
	return map[string]int{
		"ckpt.0.0": 0, "ckpt.0.7": 0, "ckpt.1.1": 1, "ckpt.9.0": 9, "ckpt.10.0": 10, "ckpt.99.5": 99, "ckpt.100.63": 100, "ckpt.2147483646.1": 2147483646, "ckpt.2147483647.0": 2147483647,
		"ckpt.00.0": 0, "ckpt.007.1": 7, "ckpt.7.00": 7, "ckpt.0000000000000000000000005.1": 5, "ckpt.3." + many: 3, "ckpt.0000002147483647.0": 2147483647, "ckpt.12.18446744073709551616": 12,
	}
}

// greatNames are such, too: of numbers behind which there is none that N may be.
func greatNames() []string {
	return []string{"ckpt.2147483648.0", "ckpt.2147483649.0", "ckpt.4294967295.0", "ckpt.4294967296.0", "ckpt.4294967297.5", "ckpt.1099511627775.0", "ckpt.1099511627776.0", "ckpt.1099511627777.0", "ckpt.9223372036854775807.0", "ckpt.9223372036854775808.0", "ckpt.18446744073709551615.0", "ckpt.18446744073709551616.0", "ckpt.18446744073709551617.0", "ckpt." + strings.Repeat("9", 25) + ".9", "ckpt.000000000000002147483648.0"}
}

func otherNames() []string {
	return []string{"ckpt", "ckpt.", "ckpt.1", "ckpt.1.", "ckpt..1", "ckpt..", "ckpt...", "ckpt.a.1", "ckpt.1.a", "ckpt.1a.1", "ckpt.1.1a", "ckpt.a1.1", "ckpt.1.1.1", "ckpt.1.1.", "ckpt.1..1", "ckpt..1.1", "ckpt.1.1.new", "ckpt.new", "ckpt.0.0.new", "ckpt1.1", "ckpt.11", "ckpts.1.1", "xckpt.1.1", ".ckpt.1.1", "1.1", ".1.1", "ckp.1.1", "manifest.", "manifest.0", "manifest.new.0", "manifests", "log.0.0", "log.5.5", "epoch", "epoch.new", "a"}
}

// Which files N hangs on, and which are removed.
func TestNames(t *testing.T) {
	for name, number := range partNames() {
		if numberIn(name) != number {
			t.Fatal("the model errs:", name)
		}
		d := laid(t, map[string]string{name: "what", "a": "b"})
		if n, e := ckpt.Write(d, dataOf(t, chapters()), 3); n != number+1 || e != api.OK {
			t.Errorf("%s: Write: %d, %d", name, n, e)
		}
		holds(t, name, d, map[string]string{fmt.Sprintf("ckpt.%d.0", number+1): frames(modelBodies(chapters())...), "manifest": manifest(uint64(number)+1, 1, 3, 3), "a": "b"})
		writes(t, name, laid(t, map[string]string{name: ""}), nil, 5)
	}
	for _, name := range otherNames() {
		d := laid(t, map[string]string{name: "what"})
		writes(t, name, d, chapters(), 3)
		if got, _ := d.Read(name); got != "what" {
			t.Errorf("%s has %q", name, got)
		}
		if _, e := d.Read("ckpt.0.0"); e != api.OK {
			t.Errorf("%s has changed N: %q", name, d.Names())
		}
		writes(t, name+" and a part", laid(t, map[string]string{name: "what", "ckpt.4.0": ""}), chapters(), 3)
	}
	for _, name := range greatNames() {
		for _, tables := range [][]modelTable{nil, chapters()} {
			for _, files := range []map[string]string{nil, {"ckpt.0.0": "", "manifest": "x", "manifest.new": "y"}} {
				d := laid(t, with(files, name, ""))
				notWritten(t, name, d, dataOf(t, tables), 3, api.ErrRange)
				d.Fuse(0)
				d.Append("a", "")
				notWritten(t, name+" on a disk that is down", d, dataOf(t, tables), 3, api.ErrRange)
			}
		}
	}
	for _, name := range []string{"CKPT.1.1", "Ckpt.1.1", "ckpt.-1.1", "ckpt.+1.1", "ckpt.1.1 ", "ckpt/1.1", "ckpt.1." + strings.Repeat("9", 26)} {
		is(t, name, disk.New().Append(name, "x"), api.ErrName)
	}
}

// All names at once: one more than the greatest number, and all of them go.
func TestAllNamesAtOnce(t *testing.T) {
	files := map[string]string{"manifest": "x"}
	for name := range partNames() {
		if !strings.Contains(name, "214748364") {
			files[name] = "part"
		}
	}
	for n, name := range otherNames() {
		files[name] = fmt.Sprint("other ", n)
	}
	d := laid(t, files)
	if n, e := ckpt.Write(d, dataOf(t, chapters()), 3); n != 101 || e != api.OK {
		t.Error(n, e)
	}
	want := map[string]string{"ckpt.101.0": frames(modelBodies(chapters())...), "manifest": manifest(101, 1, 3, 3)}
	for n, name := range otherNames() {
		want[name] = fmt.Sprint("other ", n)
	}
	holds(t, "all names", d, want)
	writes(t, "again", d, nil, 4)
}

// N is api.MaxEpoch at most: then a checkpoint with parts is the last one.
func TestLastNumber(t *testing.T) {
	for _, files := range []map[string]string{{"ckpt.2147483647.0": ""}, {"ckpt.2147483647.5": "x", "ckpt.3.0": ""}} {
		d := laid(t, files)
		writes(t, "the last number", d, chapters(), 3)
		if _, e := d.Read("ckpt.2147483648.0"); e != api.OK {
			t.Error(d.Names())
		}
		tells(t, "the last number", d, chapters(), 3)
		notWritten(t, "one more", d, table.New(), 4, api.ErrRange)
		notWritten(t, "one more", d, dataOf(t, chapters()), 4, api.ErrRange)
		tells(t, "one more", d, chapters(), 3)
		// Without parts nothing stays of the number.
		d = laid(t, files)
		writes(t, "the last number without parts", d, nil, 3)
		writes(t, "the first number", d, chapters(), 4)
		if _, e := d.Read("ckpt.0.0"); e != api.OK {
			t.Error(d.Names())
		}
	}
}

// N follows from names alone, whatever the manifest tells, and whatever the files have.
func TestNumberFollowsFromNames(t *testing.T) {
	for _, m := range []string{"", "x", manifest(5, 0, 0, 1), manifest(api.MaxEpoch, 0, 0, 1), manifest(math.MaxUint64, 1, 1, 1)} {
		d := laid(t, map[string]string{"manifest": m})
		writes(t, "a manifest alone", d, chapters(), 3)
		if _, e := d.Read("ckpt.0.0"); e != api.OK {
			t.Error(d.Names())
		}
		writes(t, "a manifest and a part", laid(t, map[string]string{"manifest": m, "ckpt.8.3": "x"}), mixed(), 3)
	}
}

// manifest.new of a Write that was not done is not written behind.
func TestManifestLeftBehind(t *testing.T) {
	older := checkpoint(modelBodies(chapters())...)
	for _, left := range []string{"", "x", manifest(7, 0, 0, 1), manifest(7, 0, 0, 1)[:20], strings.Repeat("x", api.MaxBytes)} {
		for _, files := range []map[string]string{nil, older} {
			for _, tables := range [][]modelTable{nil, mixed()} {
				writes(t, brief(left), laid(t, with(files, "manifest.new", left)), tables, 4)
			}
		}
	}
}

// cases are disks, and what is written on them.
func cases() map[string]struct {
	files  map[string]string
	tables []modelTable
} {
	type one = struct {
		files  map[string]string
		tables []modelTable
	}
	older := checkpoint(modelBodies(chapters())...)
	several := map[string]string{"manifest": manifest(3, 3, 4, 9), "ckpt.3.0": framed(schemaBody(plain("t"))) + framed(rowBody(num(4))), "ckpt.3.1": framed(rowBody(num(5))), "ckpt.3.2": framed(rowBody(num(6))), "ckpt.4.0": "left", "ckpt.2.1": "left", "a": "b", "ckpt.x": "c"}
	return map[string]one{
		"an empty disk":                    {nil, chapters()},
		"an empty disk, and no tables":     {nil, nil},
		"an older one":                     {older, mixed()},
		"an older one, no tables":          {older, nil},
		"an older one without tables":      {map[string]string{"manifest": manifest(0, 0, 0, 9)}, chapters()},
		"an older one, manifest.new":       {with(older, "manifest.new", manifest(9, 9, 9, 9)[:7]), chapters()},
		"an older one of several parts":    {several, chapters()},
		"manifest.new, no tables":          {with(several, "manifest.new", "x"), nil},
		"several parts":                    {nil, heavy()},
		"several parts behind several":     {with(several, "manifest.new", "x"), heavy()},
		"one that is corrupt":              {map[string]string{"manifest": "x", "ckpt.0.0": "y"}, chapters()},
		"parts without a manifest":         {map[string]string{"ckpt.5.0": "y", "ckpt.5.1": "z"}, mixed()},
		"names of numbers with noughts":    {with(older, "ckpt.0003.1", "w"), chapters()},
		"a part of the same number behind": {with(older, "ckpt.0.1", "w"), chapters()},
	}
}

// The disk refuses the first, second, .. change: what was changed ahead of it stays, and nothing behind it is.
func TestRefusedChanges(t *testing.T) {
	for what, x := range cases() {
		want := modelWrite(x.files, x.tables, 7)
		data := dataOf(t, x.tables)
		for fuse := range len(want.steps) + 2 {
			d := laid(t, x.files)
			d.Fuse(fuse)
			n, e := ckpt.Write(d, data, 7)
			if fuse < len(want.steps) {
				if n != 0 || e != api.ErrDown {
					t.Errorf("%s: %d changes: %d, %d", what, fuse, n, e)
				}
				holds(t, what, d, want.behind(x.files, fuse))
				// All that was synced is safe, and nothing else is: the last change says which.
				d.Crash([]int{-1, -1})
				safe := want.behind(x.files, fuse)
				if name := unsynced(x.files, want, fuse); name != "" {
					safe = with(safe, name, "")
				}
				holds(t, "a crash: "+what, d, safe)
				continue
			}
			if n != want.number || e != api.OK {
				t.Errorf("%s: %d changes: %d, %d", what, fuse, n, e)
			}
			holds(t, what, d, want.last(x.files))
			// As many changes as the model says, and none besides.
			left := d.Append("z", "")
			if fuse == len(want.steps) {
				is(t, what, left, api.ErrDown)
			} else {
				is(t, what, left, api.OK)
			}
		}
	}
}

// unsynced is the file that the last of so many changes has appended to.
func unsynced(files map[string]string, w *writing, changes int) string {
	if changes == 0 {
		return ""
	}
	now, was := w.behind(files, changes), w.behind(files, changes-1)
	for name := range now {
		_, there := was[name]
		_, renamed := was["manifest.new"]
		if !there && !(name == "manifest" && renamed) {
			return name
		}
	}
	return ""
}

// A disk that is down refuses the first change, and nothing ahead of it.
func TestDiskThatIsDown(t *testing.T) {
	d := laid(t, checkpoint(modelBodies(chapters())...))
	d.Fuse(0)
	is(t, "down", d.Append("a", "x"), api.ErrDown)
	notWritten(t, "down", d, dataOf(t, mixed()), 3, api.ErrDown)
	notWritten(t, "down, and no tables", d, table.New(), 3, api.ErrDown)
	notWritten(t, "down, and the epoch -1", d, table.New(), -1, api.ErrRange)
	tells(t, "down", d, chapters(), 3)
}

// crowded is a disk that has room for so many files more.
func crowded(files map[string]string, room int) map[string]string {
	for n := 0; len(files) < api.MaxFiles-room; n++ {
		files = with(files, fmt.Sprint("a", n), "x")
	}
	return files
}

// A disk has room for as many files as there may be: the older ones stay until the new ones are there.
func TestNoRoom(t *testing.T) {
	t.Parallel()
	older := checkpoint(modelBodies(chapters())...)
	for what, x := range cases() {
		parts := len(modelParts(modelBodies(x.tables)))
		for room := range parts + 3 {
			files := crowded(x.files, room)
			_, left := x.files["manifest.new"]
			_, had := x.files["manifest"]
			want := modelWrite(files, x.tables, 7)
			if fits := room > parts || room == parts && left; fits != (want.code == api.OK) {
				t.Fatal("the model errs:", what, room, parts, want.code)
			}
			before, wasEpoch, wasCode := modelRead(x.files)
			d := laid(t, files)
			writes(t, fmt.Sprint(what, " room ", room), d, x.tables, 7)
			if want.code == api.OK {
				continue
			}
			// The older one is still there, and so is what was written in vain; with room there is another one.
			if wasCode == api.OK {
				tells(t, what, d, before, wasEpoch)
			} else {
				refuses(t, what, d, wasCode)
			}
			is(t, what, d.Remove("a0"), api.OK)
			is(t, what, d.Remove("a1"), api.OK)
			writes(t, "with room: "+what, d, nil, 8)
			if names := d.Names(); had && len(names) != api.MaxFiles-room-2-partsIn(x.files)-count(left) {
				t.Error(what, len(names), room)
			}
		}
	}
	// No room at all, nor for a part: ErrLong comes ahead of ErrDown.
	d := laid(t, crowded(older, 0))
	d.Fuse(0)
	notWritten(t, "full", d, dataOf(t, mixed()), 3, api.ErrLong)
	notWritten(t, "full", d, table.New(), 3, api.ErrLong)
	d = laid(t, crowded(with(older, "manifest.new", "x"), 0))
	notWritten(t, "full with manifest.new", d, dataOf(t, mixed()), 3, api.ErrLong)
	writes(t, "full with manifest.new, and no tables", d, nil, 3)
}

func partsIn(files map[string]string) (many int) {
	for name := range files {
		if numberIn(name) >= 0 {
			many++
		}
	}
	return many
}

func count(yes bool) int {
	if yes {
		return 1
	}
	return 0
}

// Data of more bytes than a disk has room for.
func TestMoreThanADiskHasRoomFor(t *testing.T) {
	t.Parallel()
	x := modelTable{schema: wide("t")}
	for n := range int64(3 * 63) {
		x.rows = append(x.rows, sized(n, api.MaxFrame))
	}
	d := disk.New()
	writes(t, "as many parts as there is room for", d, []modelTable{x}, 3)
	if many := len(d.Names()); many != api.MaxFiles {
		t.Fatal("files:", many)
	}
	x.rows = append(x.rows, sized(3*63, api.MaxFrame))
	d = disk.New()
	if n, e := ckpt.Write(d, dataOf(t, []modelTable{x}), 3); n != 0 || e != api.ErrLong {
		t.Error(n, e)
	}
	refuses(t, "one part more", d, api.ErrNone)
	if many := len(d.Names()); many != api.MaxFiles {
		t.Error("files:", many)
	}
}

// One Write behind the other: N rises while there are parts, and just the last one's files are there.
func TestAgainAndAgain(t *testing.T) {
	d := disk.New()
	next := 0
	for n, tables := range [][]modelTable{chapters(), mixed(), heavy(), chapters(), nil, mixed(), nil, nil, heavy(), heavy(), chapters()} {
		number, e := ckpt.Write(d, dataOf(t, tables), n)
		if number != next || e != api.OK {
			t.Errorf("Write %d: %d, %d, not %d", n, number, e, next)
		}
		want := map[string]string{}
		bodies := modelBodies(tables)
		parts := modelParts(bodies)
		for p, s := range parts {
			want[fmt.Sprintf("ckpt.%d.%d", next, p)] = s
		}
		want["manifest"] = manifest(uint64(next), uint64(len(parts)), uint64(len(bodies)), uint64(n))
		holds(t, fmt.Sprint("Write ", n), d, want)
		tells(t, fmt.Sprint("Write ", n), d, tables, n)
		next++
		if len(parts) == 0 {
			next = 0
		}
	}
}
