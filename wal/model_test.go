package wal_test

import (
	"encoding/binary"
	"fmt"
	"hash/crc32"
	"maps"
	"math/big"
	"regexp"
	"slices"
	"sort"
	"strings"
	"testing"

	"hopper/api"
	"hopper/disk"
	"hopper/value"
	"hopper/wal"
)

// The model is the chapter's words, written out as plainly as may be: frames by the library's CRC-32, names by a pattern, numbers in names without an end, and a log that keeps its entries as they were added.

type row = []api.Value

func num(n int64) api.Value { return api.Value{Kind: api.VInt, N: n} }

func txt(s string) api.Value { return api.Value{Kind: api.VText, S: s} }

func put(table, key string, values ...api.Value) api.Write {
	return api.Write{Table: table, Key: key, Row: values}
}

func gone(table, key string) api.Write { return api.Write{Table: table, Key: key, Gone: true} }

// word is a number: eight bytes, the lowest first.
func word(n uint64) string { return string(binary.LittleEndian.AppendUint64(nil, n)) }

func text(s string) string { return word(uint64(len(s))) + s }

func tidOf(epoch, seq int) uint64 { return uint64(epoch)*(1<<23) + uint64(seq)*8 }

func epochOf(x api.Entry) int { return int(x.Tid / (1 << 23)) }

func entry(epoch, seq int, writes ...api.Write) api.Entry {
	return api.Entry{Tid: tidOf(epoch, seq), Writes: writes}
}

// small is an entry with one write, which tells it from others.
func small(epoch, seq int, n int64) api.Entry {
	return entry(epoch, seq, put("t", "k", num(n)))
}

// plainBytes writes an entry as it stands, whether it may be or not; of a row that may not be nothing is written.
func plainBytes(x api.Entry) string {
	out := []string{word(x.Tid), word(uint64(len(x.Writes)))}
	for _, w := range x.Writes {
		flag := "\x00"
		if w.Gone {
			flag = "\x01"
		}
		s, _ := value.Encode(w.Row)
		out = append(out, text(w.Table), text(w.Key), flag, text(s))
	}
	return strings.Join(out, "")
}

func writeIsGood(w api.Write) bool {
	_, e := value.Check(w.Row)
	return len(w.Table) <= 4096 && len(w.Key) <= 4096 && e == api.OK && (!w.Gone || len(w.Row) == 0)
}

func isGood(x api.Entry) bool {
	good := x.Tid>>23 <= 1<<31 && x.Tid%8 == 0 && 1 <= len(x.Writes) && len(x.Writes) <= 4096
	for _, w := range x.Writes {
		good = good && writeIsGood(w)
	}
	return good
}

func modelBytes(x api.Entry) (string, api.Errno) {
	if !isGood(x) {
		return "", api.ErrLog
	}
	if s := plainBytes(x); len(s) <= 65536 {
		return s, api.OK
	}
	return "", api.ErrLong
}

// modelEntry reads fields wherever there are bytes for them, and takes what comes of it for the entry, if its bytes are these.
func modelEntry(b string) (api.Entry, api.Errno) {
	if len(b) > 65536 {
		return api.Entry{}, api.ErrLong
	}
	at := 0
	take := func(size uint64) string {
		if size > uint64(len(b)-at) {
			size = uint64(len(b) - at)
		}
		at += int(size)
		return b[at-int(size) : at]
	}
	number := func() uint64 {
		var eight [8]byte
		copy(eight[:], take(8))
		return binary.LittleEndian.Uint64(eight[:])
	}
	x := api.Entry{Tid: number()}
	for many := number(); many > 0 && at < len(b); many-- {
		w := api.Write{Table: take(number()), Key: take(number()), Gone: take(1) == "\x01"}
		w.Row, _ = value.Decode(take(number()))
		x.Writes = append(x.Writes, w)
	}
	if isGood(x) && plainBytes(x) == b {
		return x, api.OK
	}
	return api.Entry{}, api.ErrLog
}

func framed(b string) string {
	s := string(binary.LittleEndian.AppendUint32(nil, uint32(len(b)))) + b
	return s + string(binary.LittleEndian.AppendUint32(nil, crc32.ChecksumIEEE([]byte(s))))
}

// marked is the file of these durable epochs.
func marked(epochs ...uint64) string {
	out := ""
	for _, n := range epochs {
		out += framed(word(n))
	}
	return out
}

// logged is the file of these entries.
func logged(list ...api.Entry) string {
	out := ""
	for _, x := range list {
		out += framed(plainBytes(x))
	}
	return out
}

// modelFrames answers the bodies of frames, and whether they reach to the end, or to one that ends early.
func modelFrames(b string) (bodies []string, good bool) {
	for len(b) >= 4 {
		n := int(binary.LittleEndian.Uint32([]byte(b[:4])))
		if n > 65536 {
			return nil, false
		}
		if len(b) < n+8 {
			break
		}
		if framed(b[4:4+n]) != b[:n+8] {
			return nil, false
		}
		bodies, b = append(bodies, b[4:4+n]), b[n+8:]
	}
	return bodies, true
}

var logForm = regexp.MustCompile(`\Alog\.([0-9]+)\.([0-9]+)\z`)

// generationIn answers -1 of a name that is no log's.
func generationIn(name string) int {
	parts := logForm.FindStringSubmatch(name)
	if parts == nil {
		return -1
	}
	n, _ := new(big.Int).SetString(parts[2], 10)
	if most := big.NewInt(1 << 40); n.Cmp(most) > 0 {
		n = most
	}
	return int(n.Int64())
}

func modelDurable(b string) (int, bool) {
	bodies, good := modelFrames(b)
	last := ""
	for _, s := range bodies {
		turned := []byte(s)
		slices.Reverse(turned)
		good = good && len(s) == 8 && string(turned) > last && binary.BigEndian.Uint64(turned)-1 < 1<<31
		last = string(turned)
	}
	if !good || last == "" {
		return 0, good
	}
	return int(binary.BigEndian.Uint64([]byte(last))), true
}

func modelLoad(files map[string]string) ([]api.Entry, int, api.Errno) {
	durable, good := modelDurable(files["epoch"])
	var list []api.Entry
	for _, name := range slices.Sorted(maps.Keys(files)) {
		if generationIn(name) < 0 {
			continue
		}
		bodies, fine := modelFrames(files[name])
		good = good && fine
		for _, s := range bodies {
			x, e := modelEntry(s)
			good = good && e == api.OK
			if epochOf(x) <= durable {
				list = append(list, x)
			}
		}
	}
	if !good {
		return nil, 0, api.ErrCorrupt
	}
	sort.SliceStable(list, func(i, j int) bool { return list[i].Tid < list[j].Tid })
	return list, durable, api.OK
}

// model is a log on a disk of its own.
type model struct {
	d                   *disk.Disk
	waiting             [][]api.Entry
	last                []uint64
	durable, generation int
}

// inOrder does changes one after the other, up to the first that is refused.
func inOrder(changes ...func() api.Errno) api.Errno {
	for _, change := range changes {
		if e := change(); e != api.OK {
			return e
		}
	}
	return api.OK
}

func (m *model) written(name, data string) api.Errno {
	return inOrder(func() api.Errno { return m.d.Append(name, data) }, func() api.Errno { return m.d.Sync(name) })
}

func modelOpen(d *disk.Disk, workers int) (*model, api.Errno) {
	if d == nil {
		return nil, api.ErrNone
	}
	if workers < 1 || workers > 16 {
		return nil, api.ErrRange
	}
	files := filesOf(d)
	_, durable, e := modelLoad(files)
	if e != api.OK {
		return nil, e
	}
	m := &model{d: d, waiting: make([][]api.Entry, workers), last: make([]uint64, workers), durable: durable}
	for name := range files {
		m.generation = max(m.generation, generationIn(name)+1)
	}
	var changes []func() api.Errno
	_, old := files["epoch"]
	_, left := files["epoch.new"]
	if durable == 0 && old {
		changes = append(changes, func() api.Errno { return d.Remove("epoch") })
	}
	if durable > 0 && left {
		changes = append(changes, func() api.Errno { return d.Remove("epoch.new") })
	}
	if durable > 0 {
		changes = append(changes, func() api.Errno { return m.written("epoch.new", marked(uint64(durable))) }, func() api.Errno { return d.Rename("epoch.new", "epoch") })
	}
	if e := inOrder(changes...); e != api.OK {
		return nil, e
	}
	return m, api.OK
}

func (m *model) has(w int) bool { return 0 <= w && w < len(m.waiting) }

func (m *model) Add(w int, x api.Entry) api.Errno {
	if !m.has(w) {
		return api.ErrWorker
	}
	if _, e := modelBytes(x); e != api.OK {
		return e
	}
	if x.Tid <= m.last[w] || epochOf(x) <= m.durable {
		return api.ErrOlder
	}
	m.waiting[w], m.last[w] = append(m.waiting[w], x), x.Tid
	return api.OK
}

func (m *model) Waiting(w int) (int, api.Errno) {
	if !m.has(w) {
		return 0, api.ErrWorker
	}
	return len(m.waiting[w]), api.OK
}

func (m *model) Flush(w int) api.Errno {
	if !m.has(w) {
		return api.ErrWorker
	}
	for len(m.waiting[w]) > 0 {
		many := 1
		for many < len(m.waiting[w]) && len(logged(m.waiting[w][:many+1]...)) <= 262144 {
			many++
		}
		if e := m.written(fmt.Sprintf("log.%d.%d", w, m.generation), logged(m.waiting[w][:many]...)); e != api.OK {
			return e
		}
		m.waiting[w] = m.waiting[w][many:]
	}
	return api.OK
}

func (m *model) Mark(epoch int) api.Errno {
	if epoch <= m.durable || epoch > 1<<31 {
		return api.ErrRange
	}
	for _, list := range m.waiting {
		for _, x := range list {
			if epochOf(x) <= epoch {
				return api.ErrLog
			}
		}
	}
	if e := m.written("epoch", marked(uint64(epoch))); e != api.OK {
		return e
	}
	m.durable = epoch
	return api.OK
}

func (m *model) Rotate() (int, api.Errno) {
	if m.generation >= 1<<31 {
		return 0, api.ErrRange
	}
	m.generation++
	return m.generation - 1, api.OK
}

func (m *model) Trim(generation int) (int, api.Errno) {
	if generation >= m.generation {
		return 0, api.ErrRange
	}
	many := 0
	for _, name := range m.d.Names() {
		if g := generationIn(name); g < 0 || g > generation {
			continue
		}
		if e := m.d.Remove(name); e != api.OK {
			return 0, e
		}
		many++
	}
	return many, api.OK
}

// Helpers of all tests.

func brief(x any) string {
	s := fmt.Sprintf("%+v", x)
	if len(s) > 200 {
		return fmt.Sprintf("%s.. (%d bytes)", s[:200], len(s))
	}
	return s
}

func is(t *testing.T, what string, got, want api.Errno) {
	t.Helper()
	if got != want {
		t.Errorf("%s: %d, not %d", what, got, want)
	}
}

func filesOf(d *disk.Disk) map[string]string {
	files := map[string]string{}
	for _, name := range d.Names() {
		files[name], _ = d.Read(name)
	}
	return files
}

// laid is a disk with these files, all of them synced.
func laid(t *testing.T, files map[string]string) *disk.Disk {
	t.Helper()
	d := disk.New()
	for _, name := range slices.Sorted(maps.Keys(files)) {
		if e := inOrder(func() api.Errno { return d.Append(name, files[name]) }, func() api.Errno { return d.Sync(name) }); e != api.OK {
			t.Fatal(name, e)
		}
	}
	return d
}

// holds fails when the disk's files are others than these.
func holds(t *testing.T, what string, d *disk.Disk, want map[string]string) {
	t.Helper()
	got := filesOf(d)
	for name, s := range want {
		if b, there := got[name]; !there || b != s {
			t.Errorf("%s: %s has %s, not %s (there: %t)", what, name, brief([]byte(b)), brief([]byte(s)), there)
		}
	}
	for name := range got {
		if _, there := want[name]; !there {
			t.Errorf("%s: there is a file %s", what, name)
		}
	}
}

func sameEntries(a, b []api.Entry) bool {
	return slices.EqualFunc(a, b, func(x, y api.Entry) bool { return plainBytes(x) == plainBytes(y) })
}

// loads fails when Load tells others than these.
func loads(t *testing.T, what string, d *disk.Disk, durable int, want ...api.Entry) {
	t.Helper()
	list, n, e := wal.Load(d)
	if e != api.OK || n != durable || !sameEntries(list, want) {
		t.Errorf("%s: %s, %d, %d, not %s, %d", what, brief(list), n, e, brief(want), durable)
	}
}

// corrupt fails when Load or Open takes a disk, or changes it.
func corrupt(t *testing.T, what string, d *disk.Disk) {
	t.Helper()
	before := filesOf(d)
	if list, n, e := wal.Load(d); list != nil || n != 0 || e != api.ErrCorrupt {
		t.Errorf("%s: Load: %s, %d, %d", what, brief(list), n, e)
	}
	if l, e := wal.Open(d, 1); l != nil || e != api.ErrCorrupt {
		t.Errorf("%s: Open: %v, %d", what, l, e)
	}
	if !maps.Equal(before, filesOf(d)) {
		t.Errorf("%s: files have changed", what)
	}
}

func opened(t *testing.T, d *disk.Disk, workers int) *wal.Log {
	t.Helper()
	l, e := wal.Open(d, workers)
	if l == nil || e != api.OK {
		t.Fatal("Open:", l, e)
	}
	return l
}

// waits holds how many entries of each worker wait.
func waits(t *testing.T, what string, l *wal.Log, want ...int) {
	t.Helper()
	for w, many := range want {
		if n, e := l.Waiting(w); n != many || e != api.OK {
			t.Errorf("%s: of the worker %d wait %d (%d), not %d", what, w, n, e, many)
		}
	}
	if n, e := l.Waiting(len(want)); n != 0 || e != api.ErrWorker {
		t.Errorf("%s: one worker more: %d, %d", what, n, e)
	}
}
