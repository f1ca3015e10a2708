package wal_test

import (
	"maps"
	"math"
	"strings"
	"testing"

	"hopper/api"
	"hopper/disk"
	"hopper/wal"
)

// 18.3: a log is opened.

// generation is that of a log, told by Rotate.
func generation(t *testing.T, l *wal.Log) int {
	t.Helper()
	g, e := l.Rotate()
	if e != api.OK {
		t.Fatal("Rotate:", e)
	}
	return g
}

func TestOpenWrong(t *testing.T) {
	bad := map[string]string{"epoch": marked(1), "log.0.0": wrong()}
	for _, workers := range []int{math.MinInt, -1, 0, 1, 2, api.MaxWorkers, api.MaxWorkers + 1, math.MaxInt} {
		if l, e := wal.Open(nil, workers); l != nil || e != api.ErrNone {
			t.Error(workers, l, e)
		}
		isRight := 1 <= workers && workers <= api.MaxWorkers
		for _, files := range []map[string]string{nil, bad, {"epoch": marked(2) + "x", "epoch.new": "y"}, {"epoch": "x"}} {
			if isRight && files != nil {
				continue
			}
			d := laid(t, files)
			l, e := wal.Open(d, workers)
			if isRight && (l == nil || e != api.OK) || !isRight && (l != nil || e != api.ErrRange) {
				t.Error(workers, l, e)
			}
			holds(t, "Open", d, files)
		}
	}
	corrupt(t, "what Load refuses", laid(t, bad))
	corrupt(t, "what Load refuses", laid(t, map[string]string{"epoch": marked(0), "epoch.new": marked(1)}))
	corrupt(t, "what Load refuses", laid(t, map[string]string{"epoch": marked(3), "log.0.0": logged(small(1, 0, 1)), "log.0.00": framed("")}))
}

func TestOpenWorkers(t *testing.T) {
	for workers := 1; workers <= api.MaxWorkers; workers++ {
		d := disk.New()
		l := opened(t, d, workers)
		holds(t, "Open of an empty disk", d, nil)
		waits(t, "Open", l, make([]int, workers)...)
		for w := range workers {
			is(t, "Add", l.Add(w, small(1, 0, int64(w))), api.OK)
			is(t, "Flush", l.Flush(w), api.OK)
		}
		is(t, "Add", l.Add(workers, small(1, 0, 0)), api.ErrWorker)
		is(t, "Flush", l.Flush(workers), api.ErrWorker)
		want := map[string]string{}
		for w := range workers {
			want["log."+brief(w)+".0"] = logged(small(1, 0, int64(w)))
		}
		holds(t, "a file a worker", d, want)
	}
}

// opening is a disk, what it has behind Open, and behind each of Open's changes.
type opening struct {
	what  string
	files map[string]string
	steps []map[string]string
}

// with answers files with another one, or, of an empty text, without it.
func with(files map[string]string, name, data string) map[string]string {
	files = maps.Clone(files)
	if files == nil {
		files = map[string]string{}
	}
	if data == "" {
		delete(files, name)
	} else {
		files[name] = data
	}
	return files
}

func openings() []opening {
	fill := map[string]string{"log.0.0": logged(small(1, 0, 5), small(2, 0, 6), small(3, 0, 7)), "log.1.4": logged(small(2, 1, 8)) + "tor", "a": "b", "epoch.new.0": "q"}
	var out []opening
	for _, base := range []map[string]string{{}, fill} {
		for _, left := range []string{"", "x", marked(2), marked(1, 5)} {
			base := with(base, "epoch.new", left)
			out = append(out, opening{"no file epoch", base, nil})
			for _, m := range []string{"x", marked(2)[:15], marked(7)[:4]} {
				out = append(out, opening{"a file epoch, and none durable", with(base, "epoch", m), []map[string]string{base}})
			}
			for _, m := range []string{marked(2), marked(1, 2), marked(1, 2) + "x", marked(2, 3)[:31]} {
				x := opening{what: "a durable epoch", files: with(base, "epoch", m)}
				rest := with(x.files, "epoch.new", "")
				if left != "" {
					x.steps = append(x.steps, rest)
				}
				laid := with(rest, "epoch.new", marked(2))
				x.steps = append(x.steps, laid, laid, with(rest, "epoch", marked(2)))
				out = append(out, x)
			}
		}
	}
	return out
}

func TestOpenFiles(t *testing.T) {
	for _, x := range openings() {
		d := laid(t, x.files)
		list, durable, _ := wal.Load(d)
		l := opened(t, d, 2)
		want := x.files
		if len(x.steps) > 0 {
			want = x.steps[len(x.steps)-1]
		}
		holds(t, x.what, d, want)
		waits(t, x.what, l, 0, 0)
		loads(t, x.what, d, durable, list...)
		// All that it has written is safe.
		d.Crash([]int{-1, -1})
		holds(t, x.what, d, want)
		loads(t, x.what, d, durable, list...)
		// A second time there is nothing torn, and the same comes of it.
		opened(t, d, 2)
		holds(t, "again: "+x.what, d, want)
	}
}

// The disk refuses the first, second, .. change, and what is written then is torn.
func TestOpenDown(t *testing.T) {
	for _, x := range openings() {
		for fuse := 0; fuse <= len(x.steps); fuse++ {
			for _, draw := range []int{0, 1, 5, 15, 16} {
				d := laid(t, x.files)
				list, durable, _ := wal.Load(d)
				d.Fuse(fuse)
				l, e := wal.Open(d, 2)
				if fuse == len(x.steps) {
					if l == nil || e != api.OK {
						t.Errorf("%s: %d changes: %v %d", x.what, fuse, l, e)
					}
					// None is left of the fuse.
					is(t, x.what, d.Append("z", ""), api.ErrDown)
					continue
				}
				if l != nil || e != api.ErrDown {
					t.Errorf("%s: %d changes: %v %d", x.what, fuse, l, e)
				}
				want := x.files
				if fuse > 0 {
					want = x.steps[fuse-1]
				}
				holds(t, x.what, d, want)
				loads(t, x.what, d, durable, list...)
				d.Crash([]int{draw})
				loads(t, x.what, d, durable, list...)
				opened(t, d, 2)
				loads(t, x.what, d, durable, list...)
				if len(x.steps) > 0 {
					holds(t, "in the end: "+x.what, d, x.steps[len(x.steps)-1])
				}
			}
		}
	}
}

// A disk that is down, and of which nothing is asked, is as good as another.
func TestOpenWithoutAChange(t *testing.T) {
	d := laid(t, map[string]string{"log.0.0": logged(small(1, 0, 5))})
	d.Fuse(0)
	is(t, "down", d.Append("a", "x"), api.ErrDown)
	l := opened(t, d, 1)
	is(t, "Add", l.Add(0, small(1, 0, 6)), api.OK)
	is(t, "Flush", l.Flush(0), api.ErrDown)
	waits(t, "Flush", l, 1)
}

// A disk with as many files as there may be has room for epoch.new only if that is there already.
func TestOpenOfAFullDisk(t *testing.T) {
	full := map[string]string{"epoch": marked(1, 2)}
	for n := len(full); n < api.MaxFiles; n++ {
		full["a"+brief(n)] = "x"
	}
	d := laid(t, full)
	if l, e := wal.Open(d, 1); l != nil || e != api.ErrLong {
		t.Error(l, e)
	}
	holds(t, "a full disk", d, full)
	has := with(with(full, "a1", ""), "epoch.new", "z")
	d = laid(t, has)
	opened(t, d, 1)
	holds(t, "a full disk with epoch.new", d, with(with(has, "epoch.new", ""), "epoch", marked(2)))
	none := with(with(full, "epoch", ""), "b", "x")
	d = laid(t, none)
	opened(t, d, 1)
	holds(t, "a full disk without a durable epoch", d, none)
}

// The generation is one more than the greatest of all logs'.
func TestOpenGeneration(t *testing.T) {
	long := strings.Repeat("9", 26)
	for _, x := range []struct {
		names []string
		want  int
	}{
		{nil, 0}, {[]string{"log.0.0"}, 1}, {[]string{"log.7.0"}, 1}, {[]string{"log.0.1", "log.1.0"}, 2}, {[]string{"log.0.9", "log.0.10"}, 11}, {[]string{"log.99.3", "log.0.2"}, 4},
		{[]string{"log.0.007"}, 8}, {[]string{"log.9.000"}, 1}, {[]string{"log.1." + strings.Repeat("0", 25) + "5"}, 6}, {[]string{"log." + long + ".4"}, 5},
		{[]string{"log.0.2147483645"}, 2147483646}, {[]string{"log.0.2147483646"}, 2147483647},
	} {
		files := map[string]string{"epoch": marked(2)}
		for _, name := range x.names {
			files[name] = ""
		}
		for _, name := range otherNames() {
			files[name] = "77"
		}
		if g := generation(t, opened(t, laid(t, files), 3)); g != x.want {
			t.Errorf("%q: %d, not %d", x.names, g, x.want)
		}
	}
}

// Above 2^40 a number counts as that. A generation of such a size is told by where Flush writes, as Rotate has a bound.
func TestOpenGenerationAboveTheBound(t *testing.T) {
	long := strings.Repeat("9", 26)
	for _, x := range []struct{ name, want string }{
		{"log.0.2147483647", "log.0.2147483648"}, {"log.3.2147483648", "log.0.2147483649"}, {"log.0.4294967296", "log.0.4294967297"}, {"log.0.1099511627774", "log.0.1099511627775"},
		{"log.0.1099511627775", "log.0.1099511627776"}, {"log.0.1099511627776", "log.0.1099511627777"}, {"log.3.1099511627777", "log.0.1099511627777"}, {"log.3.1099511627778", "log.0.1099511627777"},
		{"log.0.9223372036854775807", "log.0.1099511627777"}, {"log.0.9223372036854775808", "log.0.1099511627777"}, {"log.0.18446744073709551615", "log.0.1099511627777"}, {"log.0.18446744073709551616", "log.0.1099511627777"}, {"log.0.18446744073709551621", "log.0.1099511627777"}, {"log.0." + long, "log.0.1099511627777"}, {"log.0.0000001099511627777", "log.0.1099511627777"},
	} {
		d := laid(t, map[string]string{x.name: ""})
		l := opened(t, d, 1)
		if g, e := l.Rotate(); g != 0 || e != api.ErrRange {
			t.Errorf("%s: Rotate: %d %d", x.name, g, e)
		}
		is(t, "Add", l.Add(0, small(1, 0, 5)), api.OK)
		is(t, "Flush", l.Flush(0), api.OK)
		holds(t, x.name, d, map[string]string{x.name: "", x.want: logged(small(1, 0, 5))})
	}
}

// The durable epoch is that of the disk: entries up to it are older.
func TestOpenDurable(t *testing.T) {
	for _, durable := range []int{0, 1, 2, 1000, api.MaxEpoch - 1, api.MaxEpoch} {
		files := map[string]string{"log.0.0": logged(small(durable, 3, 1))}
		if durable > 0 {
			files["epoch"] = marked(uint64(durable))
		}
		l := opened(t, laid(t, files), 1)
		is(t, "Mark", l.Mark(durable), api.ErrRange)
		is(t, "Add", l.Add(0, small(durable, 9, 1)), api.ErrOlder)
		if durable == api.MaxEpoch {
			is(t, "Mark", l.Mark(durable+1), api.ErrRange)
			is(t, "Add", l.Add(0, small(durable+1, 0, 1)), api.ErrLog)
			continue
		}
		is(t, "Add", l.Add(0, small(durable+1, 0, 1)), api.OK)
		is(t, "Flush", l.Flush(0), api.OK)
		is(t, "Mark", l.Mark(durable+1), api.OK)
	}
}

// Of the Tids of an earlier log nothing is kept: those above the durable epoch may be added.
func TestOpenTids(t *testing.T) {
	d := laid(t, map[string]string{"epoch": marked(1), "log.0.0": logged(small(1, 0, 1), small(5, 7, 2))})
	l := opened(t, d, 1)
	is(t, "Add", l.Add(0, small(2, 0, 3)), api.OK)
	is(t, "Add", l.Add(0, small(2, 0, 3)), api.ErrOlder)
	is(t, "Flush", l.Flush(0), api.OK)
	holds(t, "the next generation", d, map[string]string{"epoch": marked(1), "log.0.0": logged(small(1, 0, 1), small(5, 7, 2)), "log.0.1": logged(small(2, 0, 3))})
}
