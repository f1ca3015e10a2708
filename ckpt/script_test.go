package ckpt_test

import (
	"fmt"
	"maps"
	"math/rand"
	"slices"
	"strings"
	"testing"

	"hopper/api"
	"hopper/ckpt"
	"hopper/disk"
	"hopper/value"
)

// Drawn tables, files and scripts are held against the model.

func drawValue(r *rand.Rand, kind int) api.Value {
	switch kind {
	case api.VBool:
		return yes(int64(r.Intn(2)))
	case api.VInt:
		return num(int64(r.Intn(9) - 4))
	case api.VFloat:
		return flo(float64(r.Intn(5)-2) / 2)
	case api.VPair:
		return pair(complex(float64(r.Intn(3)), float64(r.Intn(3)-1)))
	}
	return txt(strings.Repeat(string(rune('a'+r.Intn(3))), r.Intn(4)))
}

func drawSchema(r *rand.Rand, name string) api.Table {
	x := api.Table{Name: name}
	for n := range 1 + r.Intn(4) {
		x.Columns = append(x.Columns, api.Column{Name: fmt.Sprint("c", n), Kind: 1 + r.Intn(5)})
	}
	x.Key = 1 + r.Intn(len(x.Columns))
	for n := range r.Intn(3) {
		y := api.Index{Name: fmt.Sprint("i", n), Unique: r.Intn(2) == 0}
		for range 1 + r.Intn(2) {
			y.Columns = append(y.Columns, r.Intn(len(x.Columns)))
		}
		x.Indexes = append(x.Indexes, y)
	}
	return x
}

func drawRow(r *rand.Rand, x api.Table) row {
	out := row{}
	for n, c := range x.Columns {
		v := drawValue(r, c.Kind)
		if n >= x.Key && r.Intn(4) == 0 {
			v = null()
		}
		out = append(out, v)
	}
	return out
}

// drawRows leaves out what may not stand there.
func drawRows(r *rand.Rand, x *modelTable, many int) {
	var list []row
	for range many {
		list = append(list, drawRow(r, x.schema))
	}
	slices.SortFunc(list, func(a, b row) int {
		c, _ := value.Compare(a, b)
		return c
	})
	for _, y := range list {
		if x.takes(y) {
			x.rows = append(x.rows, y)
		}
	}
}

func drawSmall(r *rand.Rand) (out []modelTable) {
	for _, name := range []string{"a", "aa", "b", "c0"} {
		if r.Intn(2) == 0 {
			continue
		}
		x := modelTable{schema: drawSchema(r, name)}
		drawRows(r, &x, r.Intn(8))
		out = append(out, x)
	}
	return out
}

// drawTables has a table with long rows now and then, some of which are too long.
func drawTables(r *rand.Rand) []modelTable {
	out := drawSmall(r)
	if r.Intn(12) == 0 {
		x := modelTable{schema: wide("w")}
		for n := range 1 + r.Intn(9) {
			x.rows = append(x.rows, sized(int64(n), api.MaxFrame-r.Intn(3)*3000+r.Intn(8)/7))
		}
		out = append(out, x)
	}
	return out
}

// spoilBody changes bytes a little.
func spoilBody(r *rand.Rand, s string) string {
	b := []byte(s)
	if len(b) == 0 {
		return "\x02"
	}
	at := r.Intn(len(b))
	switch r.Intn(6) {
	case 0:
		b[at] = byte(r.Intn(256))
	case 1:
		b[at] = byte(r.Intn(4))
	case 2:
		b[at] += byte(r.Intn(3)) - 1
	case 3:
		b = append(b[:at:at], b[at+1:]...)
	case 4:
		b = append(b[:at:at], append([]byte{byte(r.Intn(3))}, b[at:]...)...)
	case 5:
		b[0] = byte(r.Intn(4))
	}
	return string(b)
}

// spoilBodies changes a list of frames a little; their sums will be right.
func spoilBodies(r *rand.Rand, list []string) []string {
	if len(list) == 0 {
		return []string{rowBody(num(1))}
	}
	at, to := r.Intn(len(list)), r.Intn(len(list))
	switch r.Intn(6) {
	case 0:
		list = slices.Delete(list, at, at+1)
	case 1:
		list = slices.Insert(list, to, list[at])
	case 2:
		list[at], list[to] = list[to], list[at]
	case 3:
		list = slices.Insert(list, at, rowBody(drawRow(r, drawSchema(r, "x"))...))
	default:
		list[at] = spoilBody(r, list[at])
	}
	return list
}

// drawFiles are those of a checkpoint, of which something is not right, as a rule.
func drawFiles(r *rand.Rand) map[string]string {
	bodies := modelBodies(drawSmall(r))
	for range r.Intn(3) {
		bodies = spoilBodies(r, bodies)
	}
	n, parts := uint64(r.Intn(3)), uint64(r.Intn(3))
	if len(bodies) > 0 {
		parts++
	}
	files := map[string]string{"manifest": manifest(n, parts, uint64(len(bodies)), uint64(r.Intn(9)))}
	left := bodies
	for p := range parts {
		take := r.Intn(len(left) + 1)
		if p == parts-1 {
			take = len(left)
		}
		files[fmt.Sprintf("ckpt.%d.%d", n, p)] = frames(left[:take]...)
		left = left[take:]
	}
	switch r.Intn(12) {
	case 0:
		files["manifest"] = spoilBody(r, files["manifest"])
	case 1:
		files["manifest"] = manifest(uint64(r.Intn(3)), uint64(r.Intn(3)), uint64(r.Intn(6)), 5)
	case 2:
		name := slices.Sorted(maps.Keys(files))[r.Intn(len(files))]
		files[name] = spoilBody(r, files[name])
	case 3:
		delete(files, slices.Sorted(maps.Keys(files))[r.Intn(len(files))])
	case 4:
		files[fmt.Sprintf("ckpt.%d.%d", n, parts)] = "more"
	}
	return files
}

func TestDrawnFiles(t *testing.T) {
	t.Parallel()
	r := rand.New(rand.NewSource(19))
	seen := map[api.Errno]int{}
	for range 12000 {
		files := drawFiles(r)
		d := laid(t, files)
		want := older(files)
		if got := readOf(t, d); got != want {
			t.Errorf("%q: %s, not %s", files, brief(got), brief(want))
		}
		holds(t, "Read", d, files)
		seen[want.code]++
	}
	if seen[api.OK] < 2000 || seen[api.ErrCorrupt] < 2000 || seen[api.ErrNone] < 50 {
		t.Error("not all is drawn:", seen)
	}
}

// A checkpoint whose schema has another one's rows, drawn from few values: keys that do not rise, and rows that clash, come often.
func TestDrawnRows(t *testing.T) {
	r := rand.New(rand.NewSource(191))
	seen := map[api.Errno]int{}
	for range 6000 {
		x := drawSchema(r, "t")
		var list []row
		for range 1 + r.Intn(4) {
			list = append(list, drawRow(r, x))
		}
		if r.Intn(4) > 0 {
			slices.SortFunc(list, func(a, b row) int {
				c, _ := value.Compare(a, b)
				return c
			})
		}
		files := checkpoint(modelBodies([]modelTable{{x, list}})...)
		want := older(files)
		if got := readOf(t, laid(t, files)); got != want {
			t.Errorf("%s: %s: %s, not %s", brief(x), brief(list), brief(got), brief(want))
		}
		seen[want.code]++
	}
	if seen[api.OK] < 1000 || seen[api.ErrCorrupt] < 1000 {
		t.Error("not all is drawn:", seen)
	}
}

// script is a disk, and what it has to have.
type script struct {
	t     *testing.T
	r     *rand.Rand
	d     *disk.Disk
	files map[string]string
	told  map[string]int
}

// read holds what is told.
func (s *script) read(what string) {
	s.t.Helper()
	holds(s.t, what, s.d, s.files)
	want := older(s.files)
	if got := readOf(s.t, s.d); got != want {
		s.t.Fatalf("%s: Read: %s, not %s", what, brief(got), brief(want))
	}
	s.told[fmt.Sprint("Read ", want.code)]++
}

// write has a fuse now and then. Behind a crash the file that was not synced is torn.
func (s *script) write() {
	tables := drawTables(s.r)
	epoch := s.r.Intn(20) - 1
	want := modelWrite(s.files, tables, epoch)
	code, changes := want.code, len(want.steps)
	fused := s.r.Intn(3) > 0
	if fused {
		fuse := s.r.Intn(12)
		s.d.Fuse(fuse)
		if fuse < changes {
			code, changes = api.ErrDown, fuse
		}
	}
	n, e := ckpt.Write(s.d, dataOf(s.t, tables), epoch)
	s.told[fmt.Sprint("Write ", e)]++
	if e != code || e == api.OK && n != want.number || e != api.OK && n != 0 {
		s.t.Fatalf("Write: %d, %d, not %d, %d", n, e, want.number, code)
	}
	was := s.files
	s.files = want.behind(was, changes)
	s.read("Write")
	if !fused {
		return
	}
	draw := s.r.Intn(400) - 10
	s.d.Crash([]int{draw})
	if name := unsynced(was, want, changes); name != "" {
		all := s.files[name]
		s.files = with(s.files, name, all[:max(0, draw)%(len(all)+1)])
	}
	s.read("a crash")
}

// stranger puts a file there that no checkpoint has written.
func (s *script) stranger() {
	names := slices.Concat(slices.Sorted(maps.Keys(partNames())), otherNames(), []string{"manifest.new", "manifest.new"})
	name := names[s.r.Intn(len(names))]
	if _, there := s.files[name]; there || strings.Contains(name, "214748364") || len(s.files) >= api.MaxFiles-1 {
		return
	}
	if e := s.d.Append(name, "stranger"); e != api.OK {
		s.t.Fatal(name, e)
	}
	is(s.t, name, s.d.Sync(name), api.OK)
	s.files = with(s.files, name, "stranger")
}

// remove takes one of the disk's files away.
func (s *script) remove() {
	if len(s.files) == 0 {
		return
	}
	name := slices.Sorted(maps.Keys(s.files))[s.r.Intn(len(s.files))]
	is(s.t, name, s.d.Remove(name), api.OK)
	s.files = without(s.files, name)
}

func TestDrawnScripts(t *testing.T) {
	t.Parallel()
	told := map[string]int{}
	for seed := range int64(100) {
		s := &script{t: t, r: rand.New(rand.NewSource(seed)), d: disk.New(), files: map[string]string{}, told: told}
		if seed%4 == 0 {
			// Nearly full.
			s.files = crowded(s.files, 1+s.r.Intn(5))
			s.d = laid(t, s.files)
		}
		for range 25 {
			switch n := s.r.Intn(10); {
			case n < 7:
				s.write()
			case n < 9:
				s.stranger()
			default:
				s.remove()
			}
			s.read("a step")
		}
	}
	for _, what := range []string{"Read 0", "Read 5", "Read 190", "Write 0", "Write 1", "Write 2", "Write 11"} {
		if told[what] < 10 {
			t.Error("hardly ever told:", what, told)
		}
	}
}
