package wal_test

import (
	"maps"
	"math"
	"math/rand"
	"slices"
	"strings"
	"testing"

	"hopper/api"
	"hopper/disk"
	"hopper/wal"
)

// 18.2: what is read from a disk.

// wrong is a frame whose sum is that of another one.
func wrong() string {
	s := []byte(framed(plainBytes(small(1, 0, 5))))
	s[len(s)-1] ^= 1
	return string(s)
}

func TestLoadOfNothing(t *testing.T) {
	if list, n, e := wal.Load(nil); list != nil || n != 0 || e != api.ErrNone {
		t.Error(list, n, e)
	}
	loads(t, "no files", disk.New(), 0)
	loads(t, "empty files", laid(t, map[string]string{"epoch": "", "log.0.0": "", "log.1.7": "", "epoch.new": ""}), 0)
	loads(t, "a durable epoch alone", laid(t, map[string]string{"epoch": marked(7)}), 7)
	loads(t, "entries alone", laid(t, map[string]string{"log.0.0": logged(small(1, 0, 5))}), 0)
	loads(t, "a Tid of the epoch 0", laid(t, map[string]string{"log.0.0": logged(small(0, 0, 5), small(1, 0, 5))}), 0, small(0, 0, 5))
}

// Which files are logs: just those that are named log., digits, a point, digits.

func logNames() []string {
	many := strings.Repeat("9", 26)
	return []string{"log.0.0", "log.1.1", "log.15.3", "log.16.3", "log.99.0", "log.00.1", "log.1.00", "log.007.010", "log.01.1", "log.1.01", "log.2147483648.2147483649", "log.1099511627776.1", "log.1.1099511627776", "log.1.1099511627777", "log.1.9223372036854775807", "log.1.9223372036854775808", "log.1.18446744073709551616", "log.1." + many, "log." + many + ".1", "log.1." + strings.Repeat("0", 26), "log." + many[:13] + "." + many[:14]}
}

func otherNames() []string {
	return []string{"log", "log.", "log.1", "log.1.", "log..1", "log..", "log...", "log.a.1", "log.1.a", "log.1a.1", "log.1.1a", "log.a1.1", "log.1.1.1", "log.1.1.", "log.1..1", "log..1.1", "log.1.1.new", "log1.1", "log.11", "logs.1.1", "xlog.1.1", ".log.1.1", "1.1", ".1.1", "lo.1.1", "epoch.new", "epoch.", "epoch.0", "epochs", "epoch.0.0", "manifest", "ckpt.0.0", "a"}
}

func TestWhichFilesAreLogs(t *testing.T) {
	for _, name := range logNames() {
		loads(t, name, laid(t, map[string]string{"epoch": marked(1), name: logged(small(1, 0, 5))}), 1, small(1, 0, 5))
		corrupt(t, name, laid(t, map[string]string{name: wrong()}))
		corrupt(t, name, laid(t, map[string]string{name: framed("x")}))
	}
	for _, name := range otherNames() {
		for _, s := range []string{"", logged(small(1, 0, 5)), wrong(), framed("x"), "\xff\xff\xff\xff", "what"} {
			loads(t, name, laid(t, map[string]string{"epoch": marked(1), name: s, "log.3.0": logged(small(1, 1, 6))}), 1, small(1, 1, 6))
		}
	}
	for _, name := range []string{"LOG.1.1", "Log.1.1", "log.-1.1", "log.+1.1", "log.1.1 ", "log/1.1", "log.1.\xd9\xa1", "log.1." + strings.Repeat("9", 27), ""} {
		is(t, name, disk.New().Append(name, "x"), api.ErrName)
	}
}

// All at once: many files of all names.
func TestAllNamesAtOnce(t *testing.T) {
	files := map[string]string{"epoch": marked(3)}
	for _, name := range otherNames() {
		files[name] = wrong()
	}
	var want []api.Entry
	for at, name := range logNames() {
		x := small(3, 100-at, int64(at))
		files[name] = logged(x)
		want = append([]api.Entry{x}, want...)
	}
	loads(t, "all names", laid(t, files), 3, want...)
}

// What the files have to be.

func TestFilesThatAreNoFrames(t *testing.T) {
	one, two := logged(small(1, 0, 5)), logged(small(2, 0, 6))
	good := map[string]string{"epoch": marked(1, 2), "log.0.0": one + two, "log.1.0": logged(small(2, 1, 7))}
	loads(t, "good", laid(t, good), 2, small(1, 0, 5), small(2, 0, 6), small(2, 1, 7))
	for _, name := range []string{"epoch", "log.0.0", "log.1.0", "log.9.9"} {
		for _, s := range []string{"\xff\xff\xff\xff", "\x01\x00\x01\x00", "\x01\x00\x01\x00" + strings.Repeat("x", 70000), "\x00\x00\x00\x80", "\x00\x00\x00\x00\x00\x00\x00\x00", "\x08\x00\x00\x00" + word(9) + "\x00\x00\x00\x00", wrong(), wrong() + one} {
			for _, ahead := range []string{good[name], ""} {
				files := maps.Clone(good)
				files[name] = ahead + s
				corrupt(t, name, laid(t, files))
			}
		}
	}
}

// A file that ends early holds the frames ahead of its end.
func TestFilesThatEndEarly(t *testing.T) {
	one, two := logged(small(1, 0, 5)), logged(small(2, 0, 6))
	b := one + two
	for cut := range len(b) + 1 {
		var want []api.Entry
		if cut >= len(one) {
			want = append(want, small(1, 0, 5))
		}
		if cut >= len(b) {
			want = append(want, small(2, 0, 6))
		}
		loads(t, "a log, cut", laid(t, map[string]string{"epoch": marked(2), "log.0.0": b[:cut]}), 2, want...)
	}
	m := marked(1, 5, 6)
	for cut := range len(m) + 1 {
		durable := []int{0, 1, 5, 6}[cut/16]
		var want []api.Entry
		if durable >= 1 {
			want = append(want, small(1, 0, 5))
		}
		if durable >= 2 {
			want = append(want, small(2, 0, 6))
		}
		loads(t, "epochs, cut", laid(t, map[string]string{"epoch": m[:cut], "log.0.0": b}), durable, want...)
	}
	for _, tail := range []string{"\x00\x00\x01\x00", "\x00\x00\x01\x00" + strings.Repeat("x", 65539), "\x01\x00\x00\x00", "\x01\x00\x00\x00x\x00\x00\x00", "\xff\xff\xff"} {
		loads(t, "a beginning of a frame behind", laid(t, map[string]string{"epoch": marked(2) + tail, "log.0.0": b + tail, "log.0.1": tail}), 2, small(1, 0, 5), small(2, 0, 6))
	}
}

// Frames that hold no entry, wherever they stand, and whatever epochs are durable.
func TestFramesThatAreNoEntries(t *testing.T) {
	good := framed(plainBytes(small(1, 0, 5)))
	for _, s := range []string{"", "x", word(0), word(5), plainBytes(small(1, 0, 5)) + "x", plainBytes(small(1, 0, 5))[1:], plainBytes(entry(1, 0)), plainBytes(entry(9, 0)), plainBytes(api.Entry{Tid: tidOf(9, 0) + 1, Writes: []api.Write{gone("t", "k")}}), plainBytes(entry(api.MaxEpoch+1, 0, gone("t", "k"))), plainBytes(entry(9, 0, api.Write{Gone: true, Row: row{{}}})), plainBytes(entry(9, 0, put(most+"x", ""))), strings.Repeat("\x00", longest)} {
		for _, b := range []string{framed(s), good + framed(s), framed(s) + good, good + framed(s) + good, framed(s) + "\x05"} {
			for _, m := range []string{"", marked(1), marked(10)} {
				corrupt(t, brief([]byte(s)), laid(t, map[string]string{"epoch": m, "log.0.0": good, "log.7.7": b}))
			}
		}
	}
}

func TestEpochs(t *testing.T) {
	for _, list := range [][]uint64{{1}, {2}, {1, 2}, {1, 3, 4, 1000}, {api.MaxEpoch - 1}, {api.MaxEpoch}, {1, api.MaxEpoch - 1, api.MaxEpoch}, {255, 256, 257, 65535, 65536}} {
		loads(t, brief(list), laid(t, map[string]string{"epoch": marked(list...)}), int(list[len(list)-1]))
	}
	for _, list := range [][]uint64{{0}, {api.MaxEpoch + 1}, {1 << 32}, {1<<32 + 1}, {1 << 62}, {1 << 63}, {1<<63 + 1}, {1<<63 + 5, 6}, {math.MaxUint64}, {1, 0}, {0, 1}, {1, 1}, {2, 1}, {1, 2, 2}, {1, 3, 2}, {1, 3, 2, 4}, {5, 5, 6}, {1, api.MaxEpoch, api.MaxEpoch}, {1, api.MaxEpoch + 1}, {1, 1<<63 + 2}, {256, 1}, {256, 255}, {65536, 257}} {
		corrupt(t, brief(list), laid(t, map[string]string{"epoch": marked(list...)}))
	}
	for _, s := range []string{"", "\x01", "\x01\x00\x00\x00\x00\x00\x00", word(1) + "\x00", word(1) + word(2), plainBytes(small(1, 0, 5))} {
		for _, b := range []string{framed(s), marked(1) + framed(s), framed(s) + marked(9), marked(1) + framed(s) + marked(9)} {
			corrupt(t, brief([]byte(s)), laid(t, map[string]string{"epoch": b}))
		}
	}
	// Those of a file that is to take its place say nothing.
	loads(t, "epoch.new", laid(t, map[string]string{"epoch.new": marked(9), "log.0.0": logged(small(1, 0, 5))}), 0)
}

// Which entries are told: those of epochs up to the durable one.
func TestUpToTheDurableEpoch(t *testing.T) {
	list := []api.Entry{small(0, 0, 0), small(0, api.MaxSeq, 1), small(1, 0, 2), small(1, api.MaxSeq, 3), small(2, 0, 4), small(5, 7, 5), small(api.MaxEpoch-1, api.MaxSeq, 6), small(api.MaxEpoch, 0, 7), small(api.MaxEpoch, api.MaxSeq, 8)}
	for _, durable := range []int{0, 1, 2, 3, 4, 5, 6, api.MaxEpoch - 2, api.MaxEpoch - 1, api.MaxEpoch} {
		var want []api.Entry
		for _, x := range list {
			if epochOf(x) <= durable {
				want = append(want, x)
			}
		}
		files := map[string]string{"log.0.0": logged(list...)}
		if durable > 0 {
			files["epoch"] = marked(uint64(durable))
		}
		loads(t, brief(durable), laid(t, files), durable, want...)
	}
}

// By Tids, rising, in whichever files and frames they stand.
func TestOrderOfEntries(t *testing.T) {
	d := laid(t, map[string]string{
		"epoch":    marked(300),
		"log.0.0":  logged(small(256, 0, 1), small(2, 0, 2), small(1, 9, 3)),
		"log.1.0":  logged(small(1, 256, 4), small(1, 1, 5), small(301, 0, 6)),
		"log.0.10": logged(small(2, 1, 7), small(255, 0, 8), small(0, 3, 9)),
	})
	loads(t, "in order", d, 300, small(0, 3, 9), small(1, 1, 5), small(1, 9, 3), small(1, 256, 4), small(2, 0, 2), small(2, 1, 7), small(255, 0, 8), small(256, 0, 1))
}

// Of the same Tid: by names as bytes, not as numbers, and in a file by frames.
func TestOrderOfTheSameTid(t *testing.T) {
	names := []string{"log.0.0", "log.0.00", "log.0.10", "log.0.2", "log.00.1", "log.1.5", "log.10.0", "log.10.10", "log.10.9", "log.2.0", "log.9.0"}
	if !slices.IsSorted(names) {
		t.Fatal("names are not in order")
	}
	files := map[string]string{"epoch": marked(2)}
	var first, second []api.Entry
	for at, name := range names {
		a, b, c := small(1, 5, int64(9-at)), small(1, 5, int64(-at)), small(2, 0, int64(at%3))
		files[name] = logged(a, c, b)
		first, second = append(first, a, b), append(second, c)
	}
	// One that is there more than once is told as often.
	files["log.9.1"] = logged(small(1, 5, 3), small(2, 0, 3), small(1, 5, 3))
	first, second = append(first, small(1, 5, 3), small(1, 5, 3)), append(second, small(2, 0, 3))
	loads(t, "the same Tids", laid(t, files), 2, append(first, second...)...)
	// Many of one Tid.
	var many []api.Entry
	for n := range int64(300) {
		many = append(many, small(1, 1, n*7919%300))
	}
	loads(t, "many", laid(t, map[string]string{"epoch": marked(1), "log.0.0": logged(many[:170]...), "log.1.0": logged(many[170:]...)}), 1, many...)
}

// Load changes nothing: what is not synced is torn as before, and a fuse stays whole.
func TestLoadChangesNothing(t *testing.T) {
	d := laid(t, map[string]string{"epoch": marked(1), "log.0.0": logged(small(1, 0, 5))})
	d.Append("epoch", marked(2))
	d.Append("log.0.0", logged(small(2, 0, 6)))
	d.Append("log.0.1", "x")
	d.Append("epoch.new", "y")
	before := filesOf(d)
	d.Fuse(1)
	for range 2 {
		loads(t, "with what is not synced", d, 2, small(1, 0, 5), small(2, 0, 6))
	}
	holds(t, "Load", d, before)
	is(t, "the change that is left", d.Append("a", ""), api.OK)
	is(t, "one more", d.Append("a", ""), api.ErrDown)
	loads(t, "of a disk that is down", d, 2, small(1, 0, 5), small(2, 0, 6))
	d.Crash(nil)
	holds(t, "a crash", d, map[string]string{"epoch": marked(1), "log.0.0": logged(small(1, 0, 5)), "log.0.1": "", "epoch.new": "", "a": ""})
	loads(t, "behind a crash", d, 1, small(1, 0, 5))
	corrupt(t, "a wrong one", laid(t, map[string]string{"log.0.0": wrong(), "epoch": marked(1) + "x", "epoch.new": "y"}))
}

// As many files as there may be, as long as they may be.
func TestLoadOfAFullDisk(t *testing.T) {
	files := map[string]string{"epoch": ""}
	for n := range uint64(api.MaxBytes / 16) {
		files["epoch"] += marked(n + 1)
	}
	var want []api.Entry
	for n := range 3 {
		list := []api.Entry{sized(n+1, 0, longest-8), sized(n+1, 1, longest-8), sized(n+1, 2, longest-8), sized(n+1, 3, longest-8)}
		files["log.0."+brief(n)] = logged(list...)
		want = append(want, list...)
	}
	for n := range api.MaxFiles - 4 {
		x := small(5, n, int64(n))
		files["log."+brief(n)+".9"] = logged(x)
		want = append(want, x)
	}
	loads(t, "a full disk", laid(t, files), api.MaxBytes/16, want...)
}

// Drawn files, of which some are spoilt, are held against the model.
func TestDrawnFiles(t *testing.T) {
	r := rand.New(rand.NewSource(182))
	names := append(logNames()[:9], otherNames()[:6]...)
	told := map[api.Errno]int{}
	for range 6000 {
		files := map[string]string{}
		if r.Intn(8) > 0 {
			last := uint64(0)
			for range r.Intn(4) {
				last += uint64(r.Intn(12)+3) / 4
				files["epoch"] += marked(last)
			}
		}
		for range r.Intn(4) {
			name := names[r.Intn(len(names))]
			for range r.Intn(4) {
				files[name] += logged(drawEntry(r, r.Intn(6), r.Intn(3)))
			}
		}
		for _, name := range slices.Sorted(maps.Keys(files)) {
			b := files[name]
			if r.Intn(6) == 0 && b != "" {
				files[name] = string(spoilt(r, []byte(b)))
			} else if r.Intn(3) == 0 {
				files[name] = b[:r.Intn(len(b)+1)]
			}
		}
		list, n, e := wal.Load(laid(t, files))
		want, durable, code := modelLoad(files)
		if !sameEntries(list, want) || n != durable || e != code {
			t.Errorf("%q: %s %d %d, not %s %d %d", files, brief(list), n, e, brief(want), durable, code)
		}
		told[e]++
	}
	if told[api.OK] < 1000 || told[api.ErrCorrupt] < 500 {
		t.Error("not all is drawn:", told)
	}
}
