package recover_test

import (
	"cmp"
	"fmt"
	"maps"
	"math/rand"
	"slices"
	"strings"
	"testing"

	"hopper/api"
	"hopper/ckpt"
	"hopper/disk"
	back "hopper/recover"
	"hopper/table"
	"hopper/wal"
)

// Drawn disks and lives are held against the model.

func drawValue(r *rand.Rand, kind int) api.Value {
	switch kind {
	case api.VBool:
		return yes(int64(r.Intn(2)))
	case api.VInt:
		return num(int64(r.Intn(7) - 3))
	case api.VFloat:
		return flo(float64(r.Intn(5)-2) / 2)
	case api.VPair:
		return pair(complex(float64(r.Intn(3)), float64(r.Intn(3)-1)))
	}
	return txt(strings.Repeat(string(rune('a'+r.Intn(3))), r.Intn(4)))
}

func drawSchema(r *rand.Rand, name string) api.Table {
	x := api.Table{Name: name}
	for n := range 1 + r.Intn(4) {
		x.Columns = append(x.Columns, api.Column{Name: fmt.Sprint("c", n), Kind: 1 + r.Intn(5)})
	}
	x.Key = 1 + r.Intn(len(x.Columns))
	for n := range r.Intn(3) {
		y := api.Index{Name: fmt.Sprint("i", n), Unique: r.Intn(3) > 0}
		for range 1 + r.Intn(2) {
			y.Columns = append(y.Columns, r.Intn(len(x.Columns)))
		}
		x.Indexes = append(x.Indexes, y)
	}
	return x
}

func drawRow(r *rand.Rand, x api.Table) row {
	out := row{}
	for n, c := range x.Columns {
		v := drawValue(r, c.Kind)
		if n >= x.Key && r.Intn(3) == 0 {
			v = null()
		}
		out = append(out, v)
	}
	return out
}

// drawTables have few rows, which do not clash, in order.
func drawTables(r *rand.Rand) (out []modelTable) {
	for _, name := range []string{"a", "aa", "b"} {
		if r.Intn(3) == 0 {
			continue
		}
		x := modelTable{schema: drawSchema(r, name)}
		for range r.Intn(7) {
			tried := []modelTable{{x.schema, slices.Clone(x.rows)}}
			if modelWrite(tried, put(name, x.schema.Key, drawRow(r, x.schema)...)) && tried[0].sound() {
				x = tried[0]
			}
		}
		slices.SortFunc(x.rows, func(a, b row) int { return cmp.Compare(x.key(a), x.key(b)) })
		out = append(out, x)
	}
	return out
}

// drawWrite is one to such a table, and fits, as a rule.
func drawWrite(r *rand.Rand, tables []modelTable, odd int) api.Write {
	if len(tables) == 0 {
		return put("a", 1, num(1))
	}
	x := tables[r.Intn(len(tables))].schema
	w := put(x.Name, x.Key, drawRow(r, x)...)
	if r.Intn(3) == 0 {
		w.Gone, w.Row = true, nil
	}
	if r.Intn(100) >= odd {
		return w
	}
	switch r.Intn(6) {
	case 0:
		w.Table = []string{"", "a", "aa", "b", "c"}[r.Intn(5)]
	case 1:
		w.Key = w.Key[:r.Intn(len(w.Key))]
	case 2:
		w.Key += keyOf(drawValue(r, 1+r.Intn(5)))
	case 3:
		b := []byte(w.Key)
		b[r.Intn(len(b))] += byte(r.Intn(3)) - 1
		w.Key = string(b)
	case 4:
		w.Key = keyOf(drawRow(r, x)[:x.Key]...)
	case 5:
		if !w.Gone {
			w.Row[r.Intn(len(w.Row))] = drawValue(r, 1+r.Intn(5))
		}
	}
	return w
}

// drawFiles are those of a checkpoint and of logs of several workers and generations.
func drawFiles(r *rand.Rand) map[string]string {
	tables := drawTables(r)
	files := map[string]string{}
	if r.Intn(10) > 0 {
		files = checkpoint(r.Intn(3), tables, r.Intn(6))
	} else if r.Intn(2) > 0 {
		tables = nil
	}
	if r.Intn(6) > 0 {
		files["epoch"] = marked([][]int{{1}, {1, 2}, {4}, {2, 5}, {3, 6}, {7}}[r.Intn(6)]...)
	}
	odd := []int{0, 0, 10}[r.Intn(3)]
	for range r.Intn(5) {
		name := fmt.Sprintf("log.%d.%d", r.Intn(3), r.Intn(12))
		for range 1 + r.Intn(3) {
			x := entry(r.Intn(9), r.Intn(3))
			for range 1 + r.Intn(3) {
				x.Writes = append(x.Writes, drawWrite(r, tables, odd))
			}
			files[name] += logged(x)
		}
	}
	switch r.Intn(14) {
	case 0:
		files["manifest.new"] = "left"
	case 1:
		files["epoch.new"] = "left"
	case 2:
		files[fmt.Sprintf("ckpt.%d.%d", r.Intn(5), 1+r.Intn(3))] = "left"
	case 3:
		files["log.x.0"] = "other"
	}
	if len(files) > 0 && r.Intn(6) == 0 {
		name := slices.Sorted(maps.Keys(files))[r.Intn(len(files))]
		if b := []byte(files[name]); len(b) > 0 && r.Intn(2) == 0 {
			b[r.Intn(len(b))] ^= 1
			files[name] = string(b)
		} else {
			files[name] = files[name][:r.Intn(len(b)+1)]
		}
	}
	return files
}

func TestDrawnFiles(t *testing.T) {
	t.Parallel()
	r := rand.New(rand.NewSource(20))
	seen := map[string]int{}
	for range 8000 {
		files := drawFiles(r)
		want := modelStart(files, 2)
		d := laid(t, files)
		if got := readOf(t, d); got != want.held.told() {
			t.Fatalf("%q: %s, not %s", files, brief(got), brief(want.held.told()))
		}
		holds(t, "Read", d, files)
		seen[fmt.Sprint("Read ", want.held.code)]++
		if len(want.held.tables) > 0 && len(filesOf(d)) > 3 {
			seen["tables and logs"]++
		}
		fuse := r.Intn(24)
		d.Fuse(fuse)
		got, _ := started(t, "Start", d, 2)
		code := want.code
		if code == api.OK && fuse < want.changes() {
			code = api.ErrDown
		}
		if got.code != code || code == api.OK && got != want.held.told() {
			t.Fatalf("%q: Start: %s, not %d", files, brief(got), code)
		}
		seen[fmt.Sprint("Start ", code)]++
		made := min(fuse, want.changes())
		holds(t, "Start", d, want.behind(made))
		x := want.steps[made]
		draw := r.Intn(len(x.files[x.name]) - x.safe + 1)
		d.Crash([]int{draw})
		holds(t, "a crash", d, torn(want, made, draw))
		same(t, "a crash", d, want.held.told())
		if t.Failed() {
			t.Fatalf("%q", files)
		}
	}
	for what, many := range map[string]int{"Read 0": 2000, "Read 190": 1000, "Start 0": 1000, "Start 11": 1000, "tables and logs": 1000} {
		if seen[what] < many {
			t.Error("not all is drawn:", what, seen)
		}
	}
}

// story is a disk, a log on it, and what the data are: now, and at all epochs so far.
type story struct {
	t       *testing.T
	r       *rand.Rand
	d       *disk.Disk
	l       *wal.Log
	now     *table.Data
	epoch   int            // of what is added now
	seq     int            // of what was added last
	states  map[int]string // of epochs that are past
	lasts   int            // up to which epoch all lasts
	allowed []int          // other epochs that may be told: of calls that went down
	seen    map[string]int
}

// went tells whether the disk has gone down by a call; nothing else may be refused.
func (s *story) went(what string, e api.Errno) bool {
	s.t.Helper()
	s.seen[fmt.Sprint(what, " ", e)]++
	if e != api.OK && e != api.ErrDown {
		s.t.Fatalf("%s: %d", what, e)
	}
	return e == api.OK
}

// batch draws operations. If they are done, what they wrote is added as an entry.
func (s *story) batch() {
	var ops []api.Op
	names := s.now.Tables()
	for range 1 + s.r.Intn(4) {
		x, _ := s.now.Schema(names[s.r.Intn(len(names))])
		line := drawRow(s.r, x)
		if s.r.Intn(3) > 0 {
			ops = append(ops, api.Op{Kind: api.OPut, Table: x.Name, Row: line})
		} else {
			ops = append(ops, api.Op{Kind: api.ODelete, Table: x.Name, Key: line[:x.Key]})
		}
	}
	if _, done, _ := s.now.Apply(ops); !done {
		s.seen["refused"]++
		return
	}
	s.seq++
	s.went("Add", s.l.Add(s.r.Intn(2), entry(s.epoch, s.seq, s.written(ops)...)))
}

// written are the writes of a batch that was done: of each key what it came to, by tables and keys.
func (s *story) written(ops []api.Op) []api.Write {
	list := map[string]api.Write{}
	for _, op := range ops {
		x, _ := s.now.Schema(op.Table)
		k := op.Key
		if op.Kind == api.OPut {
			k = op.Row[:x.Key]
		}
		found, _, _ := s.now.Apply([]api.Op{{Kind: api.OGet, Table: op.Table, Key: k}})
		w := gone(op.Table, k...)
		if len(found[0].Rows) > 0 {
			w = put(op.Table, x.Key, found[0].Rows[0]...)
		}
		list[w.Table+"/"+w.Key] = w
	}
	var out []api.Write
	for _, name := range slices.Sorted(maps.Keys(list)) {
		out = append(out, list[name])
	}
	return out
}

func (s *story) rise() {
	s.states[s.epoch] = stateOf(s.t, s.now)
	s.epoch++
	s.seq = 0
}

func (s *story) flush() bool {
	return s.went("Flush", s.l.Flush(0)) && s.went("Flush", s.l.Flush(1))
}

// settle makes the last epoch that is past durable; with a checkpoint ahead of it now and then.
func (s *story) settle() bool {
	epoch := s.epoch - 1
	if !s.flush() {
		return false
	}
	if epoch <= s.lasts {
		return true
	}
	if s.seq == 0 && s.r.Intn(3) == 0 {
		_, e := ckpt.Write(s.d, s.now, epoch)
		if !s.lastsNow(s.went("Write", e), epoch) {
			return false
		}
		if s.r.Intn(2) == 0 {
			return s.trim()
		}
	}
	return s.lastsNow(s.went("Mark", s.l.Mark(epoch)), epoch)
}

// lastsNow notes that all up to an epoch lasts, or, if the disk went down by that, that it may.
func (s *story) lastsNow(done bool, epoch int) bool {
	if done {
		s.lasts = epoch
	} else {
		s.allowed = append(s.allowed, epoch)
	}
	return done
}

// trim takes the logs away that the checkpoint stands for.
func (s *story) trim() bool {
	g, e := s.l.Rotate()
	if !s.went("Rotate", e) {
		return false
	}
	_, e = s.l.Trim(g)
	return s.went("Trim", e)
}

// begin starts until the disk does not go down by it.
func (s *story) begin() {
	for {
		s.d.Fuse(s.r.Intn(30))
		data, l, epoch, e := back.Start(s.d, 2)
		if s.went("Start", e) {
			s.told(stateOf(s.t, data), epoch)
			s.now, s.l, s.epoch, s.seq = data, l, epoch+1+s.r.Intn(2), 0
			s.states[s.epoch-1] = stateOf(s.t, data)
			return
		}
		s.crash()
	}
}

// told holds what is told of an epoch, which is the one that lasts then.
func (s *story) told(state string, epoch int) {
	s.t.Helper()
	if epoch != s.lasts && !slices.Contains(s.allowed, epoch) {
		s.t.Fatalf("the epoch %d, not %d or %v", epoch, s.lasts, s.allowed)
	}
	if state != s.states[epoch] {
		s.t.Fatalf("of the epoch %d: %s, not %s", epoch, brief(state), brief(s.states[epoch]))
	}
	s.lasts, s.allowed = epoch, nil
}

func (s *story) crash() {
	s.t.Helper()
	var draws []int
	for range 5 {
		draws = append(draws, s.r.Intn(200)-20)
	}
	s.d.Crash(draws)
	got := readOf(s.t, s.d)
	if got.code != api.OK {
		s.t.Fatal("Read:", got.code)
	}
	s.told(got.state, got.epoch)
}

// live does what is drawn until the disk goes down, or for so many steps.
func (s *story) live(steps int) {
	s.begin()
	s.d.Fuse(5 + s.r.Intn(60))
	for range steps {
		switch n := s.r.Intn(10); {
		case n < 5:
			s.batch()
		case n < 7:
			s.rise()
		case n < 8:
			if !s.flush() {
				return
			}
		default:
			if !s.settle() {
				return
			}
		}
	}
}

func TestDrawnLives(t *testing.T) {
	t.Parallel()
	seen := map[string]int{}
	for seed := range int64(120) {
		r := rand.New(rand.NewSource(seed))
		var tables []modelTable
		for len(tables) == 0 {
			tables = drawTables(r)
		}
		s := &story{t: t, r: r, d: laid(t, checkpoint(0, tables, 0)), states: map[int]string{0: plainText(tables)}, seen: seen}
		for range 6 {
			s.live(60)
			// Epochs that are not past have no state: nothing of them may last.
			s.crash()
		}
	}
	for what, many := range map[string]int{"Start 0": 500, "Start 11": 200, "Flush 11": 50, "Mark 0": 500, "Mark 11": 20, "Write 0": 100, "Write 11": 20, "Trim 0": 50, "refused": 500} {
		if seen[what] < many {
			t.Error("hardly ever:", what, seen)
		}
	}
}
