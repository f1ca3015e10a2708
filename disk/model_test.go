package disk_test

import (
	"fmt"
	"math/rand"
	"sort"
	"strings"
	"testing"

	"hopper/api"
	"hopper/disk"
)

// model is the chapter's words, written out as plainly as may be: safe bytes and tails as two texts.
type model struct {
	safe, tail map[string]string
	down       bool
	fuse       int // below 0: none
}

func newModel() *model {
	return &model{safe: map[string]string{}, tail: map[string]string{}, fuse: -1}
}

func wrongName(names ...string) bool {
	for _, name := range names {
		if name == "" || len(name) > api.MaxName || strings.Trim(name, "abcdefghijklmnopqrstuvwxyz0123456789.") != "" {
			return true
		}
	}
	return false
}

func (m *model) there(name string) bool { _, ok := m.safe[name]; return ok }

func (m *model) change(make func()) api.Errno {
	if m.fuse == 0 {
		m.down = true
	}
	if m.down {
		return api.ErrDown
	}
	if m.fuse > 0 {
		m.fuse--
	}
	make()
	return api.OK
}

func (m *model) Append(name, data string) api.Errno {
	if wrongName(name) {
		return api.ErrName
	}
	if len(m.safe[name])+len(m.tail[name])+len(data) > api.MaxBytes || !m.there(name) && len(m.safe) == api.MaxFiles {
		return api.ErrLong
	}
	return m.change(func() {
		m.safe[name] += ""
		m.tail[name] += data
	})
}

func (m *model) Sync(name string) api.Errno {
	if wrongName(name) {
		return api.ErrName
	}
	if !m.there(name) {
		return api.ErrNone
	}
	return m.change(func() {
		m.safe[name] += m.tail[name]
		m.tail[name] = ""
	})
}

func (m *model) Rename(from, to string) api.Errno {
	if wrongName(from, to) {
		return api.ErrName
	}
	if !m.there(from) {
		return api.ErrNone
	}
	return m.change(func() {
		safe, tail := m.safe[from], m.tail[from]
		delete(m.safe, from)
		delete(m.tail, from)
		m.safe[to], m.tail[to] = safe, tail
	})
}

func (m *model) Remove(name string) api.Errno {
	if wrongName(name) {
		return api.ErrName
	}
	if !m.there(name) {
		return api.ErrNone
	}
	return m.change(func() {
		delete(m.safe, name)
		delete(m.tail, name)
	})
}

func (m *model) Read(name string) (string, api.Errno) {
	if wrongName(name) {
		return "", api.ErrName
	}
	if !m.there(name) {
		return "", api.ErrNone
	}
	return m.safe[name] + m.tail[name], api.OK
}

func (m *model) Names() []string {
	var names []string
	for name := range m.safe {
		names = append(names, name)
	}
	sort.Strings(names)
	return names
}

func (m *model) Fuse(n int) api.Errno {
	if n < 0 {
		return api.ErrRange
	}
	m.fuse = n
	return api.OK
}

func (m *model) Crash(draws []int) api.Errno {
	if len(draws) > api.MaxItems {
		return api.ErrLong
	}
	m.down, m.fuse = false, -1
	at := 0
	for _, name := range m.Names() {
		tail := m.tail[name]
		if tail == "" {
			continue
		}
		if at < len(draws) && draws[at] >= 0 {
			m.safe[name] += tail[:draws[at]%(len(tail)+1)]
		}
		m.tail[name] = ""
		at++
	}
	return api.OK
}

// drive is what both, the disk and the model, can do.
type drive interface {
	Append(name, data string) api.Errno
	Sync(name string) api.Errno
	Rename(from, to string) api.Errno
	Remove(name string) api.Errno
	Read(name string) (string, api.Errno)
	Names() []string
	Fuse(n int) api.Errno
	Crash(draws []int) api.Errno
}

// step draws a call, and answers how to make it and what it is.
func step(r *rand.Rand, names []string) (string, func(d drive) string) {
	one, two := names[r.Intn(len(names))], names[r.Intn(len(names))]
	switch k := r.Intn(20); {
	case k < 8:
		data := strings.Repeat(string(rune('a'+r.Intn(26))), r.Intn(6))
		if r.Intn(60) == 0 {
			data = strings.Repeat("L", api.MaxBytes-r.Intn(12))
		}
		return fmt.Sprintf("Append %s %d", one, len(data)), func(d drive) string { return fmt.Sprint(d.Append(one, data)) }
	case k < 11:
		return "Sync " + one, func(d drive) string { return fmt.Sprint(d.Sync(one)) }
	case k < 13:
		return "Rename " + one + " " + two, func(d drive) string { return fmt.Sprint(d.Rename(one, two)) }
	case k < 14:
		return "Remove " + one, func(d drive) string { return fmt.Sprint(d.Remove(one)) }
	case k < 16:
		return "Read " + one, func(d drive) string { return fmt.Sprint(d.Read(one)) }
	case k < 17:
		n := r.Intn(20) - 2
		return fmt.Sprint("Fuse ", n), func(d drive) string { return fmt.Sprint(d.Fuse(n)) }
	case k < 19:
		draws := make([]int, r.Intn(8))
		for i := range draws {
			draws[i] = r.Intn(14) - 2
		}
		if r.Intn(12) == 0 {
			draws = make([]int, api.MaxItems+r.Intn(2))
		}
		return fmt.Sprint("Crash of ", len(draws)), func(d drive) string { return fmt.Sprint(d.Crash(draws)) }
	default:
		return "Names", func(d drive) string { return fmt.Sprint(d.Names()) }
	}
}

// TestLikeTheModel holds the disk against the model, over scripts that are the same in each run.
func TestLikeTheModel(t *testing.T) {
	few := []string{"a", "b", "c", "b.1", "B", "", "d"}
	many := manyNames(api.MaxFiles + 6)
	for seed := range 120 {
		r := rand.New(rand.NewSource(int64(seed)))
		names := few
		if seed%4 == 0 {
			names = many
		}
		script(t, r, names, 400)
		if t.Failed() {
			t.Fatalf("script %d", seed)
		}
	}
}

func manyNames(n int) []string {
	var names []string
	for i := range n {
		names = append(names, fmt.Sprintf("n%d", i))
	}
	return names
}

func script(t *testing.T, r *rand.Rand, names []string, steps int) {
	d, m := disk.New(), newModel()
	if len(names) > api.MaxFiles { // so that the edge is reached
		for _, name := range names {
			must(t, "Append", d.Append(name, "x"), m.Append(name, "x"))
		}
	}
	for i := range steps {
		what, call := step(r, names)
		if got, want := call(d), call(m); got != want {
			t.Fatalf("step %d, %s: %s, not %s", i, what, short(got), short(want))
		}
		if i%50 == 49 {
			alike(t, d, m)
		}
	}
	alike(t, d, m)
}

func alike(t *testing.T, d *disk.Disk, m *model) {
	t.Helper()
	all := map[string]string{}
	for _, name := range m.Names() {
		all[name], _ = m.Read(name)
	}
	has(t, "behind the steps", d, all)
}
