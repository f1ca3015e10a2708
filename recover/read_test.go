package recover_test

import (
	"fmt"
	"maps"
	"math"
	"slices"
	"strings"
	"testing"

	"hopper/api"
	"hopper/disk"
	back "hopper/recover"
)

// 20.1: what a disk holds is told.

func TestExample(t *testing.T) {
	d := disk.New()
	tells(t, "an empty disk", d, nil, 0)
	data, l, n, e := back.Start(d, 2)
	if data == nil || len(data.Tables()) != 0 || l == nil || n != 0 || e != api.OK {
		t.Error(data, l, n, e)
	}
	holds(t, "an empty disk", d, map[string]string{"manifest": framed(word(0) + word(0) + word(0) + word(0))})
	d = laid(t, both(checkpoint(0, numbers(1), 2), map[string]string{"log.0.0": logged(small(2, 0, 2), small(3, 0, 3)), "epoch": marked(3)}))
	tells(t, "a checkpoint and logs", d, numbers(1, 3), 3)
}

func TestReadOfNothing(t *testing.T) {
	if data, n, e := back.Read(nil); data != nil || n != 0 || e != api.ErrNone {
		t.Error(data, n, e)
	}
	tells(t, "an empty disk", disk.New(), nil, 0)
	for _, name := range []string{"a", "manifest.new", "epoch.new", "ckpt.0.0", "log", "log.0", "epochs"} {
		tells(t, name, laid(t, map[string]string{name: "spoilt"}), nil, 0)
	}
}

func TestCheckpointAlone(t *testing.T) {
	t.Parallel()
	for _, epoch := range []int{0, 1, 7, 1 << 20, api.MaxEpoch} {
		for _, tables := range [][]modelTable{nil, numbers(), numbers(3, 5), mixed(), heavy()} {
			tells(t, fmt.Sprint("the epoch ", epoch), laid(t, checkpoint(3, tables, epoch)), tables, epoch)
		}
	}
}

// Without a checkpoint there are no tables, so nothing that counts may have been written.
func TestLogsAlone(t *testing.T) {
	for _, x := range []struct {
		what    string
		files   map[string]string
		durable int
	}{
		{"a mark", map[string]string{"epoch": marked(4)}, 4},
		{"marks", map[string]string{"epoch": marked(1, 5, api.MaxEpoch)}, api.MaxEpoch},
		{"a torn mark", map[string]string{"epoch": marked(4)[:9]}, 0},
		{"a log without a mark", map[string]string{"log.0.0": logged(small(1, 0, 1))}, 0},
		{"a log above the mark", map[string]string{"log.0.0": logged(small(5, 0, 1)), "epoch": marked(4)}, 4},
		{"an empty log", map[string]string{"log.0.0": "", "epoch": marked(4)}, 4},
		{"an entry of the epoch 0, which is none's", map[string]string{"log.0.0": logged(small(0, 5, 1)), "epoch": marked(4)}, 4},
	} {
		tells(t, x.what, laid(t, x.files), nil, x.durable)
	}
	for _, epoch := range []int{1, 3, 4} {
		for _, w := range []api.Write{put("t", 1, num(1)), gone("t", num(1)), {}} {
			d := laid(t, map[string]string{"log.0.0": logged(entry(epoch, 0, w)), "epoch": marked(4)})
			refuses(t, fmt.Sprint("an entry of the epoch ", epoch), d, api.ErrCorrupt)
		}
	}
}

// Each entry puts a row that is its epoch: just those above the checkpoint's epoch, and up to the durable one, are told.
func TestWhichEntriesCount(t *testing.T) {
	const most = 7
	var list []api.Entry
	for epoch := range most + 1 {
		list = append(list, small(epoch, 0, int64(epoch)), small(epoch, api.MaxSeq, int64(100+epoch)))
	}
	logs := map[string]string{"log.0.0": logged(list[:3]...), "log.3.0": logged(list[3:8]...), "log.1.1": logged(list[8:]...)}
	for of := range most + 1 {
		for durable := range most + 1 {
			files := both(checkpoint(0, numbers(50), of), logs)
			if durable > 0 {
				files["epoch"] = marked(durable)
			}
			want := []int64{50}
			for epoch := of + 1; epoch <= durable; epoch++ {
				want = append(want, int64(epoch), int64(100+epoch))
			}
			slices.Sort(want)
			tells(t, fmt.Sprintf("of %d, durable %d", of, durable), laid(t, files), numbers(want...), max(of, durable))
		}
	}
	// The greatest epochs.
	logs = map[string]string{"log.0.0": logged(small(api.MaxEpoch-1, 0, 1), small(api.MaxEpoch, 0, 2))}
	for _, x := range []struct {
		of, durable int
		rows        []int64
	}{
		{api.MaxEpoch - 2, api.MaxEpoch, []int64{1, 2}}, {api.MaxEpoch - 1, api.MaxEpoch, []int64{2}}, {api.MaxEpoch, api.MaxEpoch, nil}, {api.MaxEpoch - 2, api.MaxEpoch - 1, []int64{1}},
	} {
		files := both(checkpoint(0, numbers(), x.of), logs, map[string]string{"epoch": marked(x.durable)})
		tells(t, fmt.Sprint("the last epochs: ", x.of, " ", x.durable), laid(t, files), numbers(x.rows...), max(x.of, x.durable))
	}
}

// What does not count need not fit.
func TestWhatDoesNotCount(t *testing.T) {
	for _, w := range unfit() {
		for epoch := range 8 {
			files := both(checkpoint(0, numbers(1), 3), map[string]string{"log.0.0": logged(entry(epoch, 0, w)), "epoch": marked(5)})
			if 3 < epoch && epoch <= 5 {
				refuses(t, brief(w), laid(t, files), api.ErrCorrupt)
			} else {
				tells(t, brief(w), laid(t, files), numbers(1), 5)
			}
		}
	}
}

func spoil(s string, at int) string { return s[:at] + string(s[at]^1) + s[at+1:] }

func TestCorrupt(t *testing.T) {
	t.Parallel()
	good := both(checkpoint(2, numbers(1, 2), 3), map[string]string{"epoch": marked(2, 4), "log.0.0": logged(small(4, 0, 3)), "log.1.2": logged(small(4, 1, 4), small(5, 0, 6))})
	tells(t, "good", laid(t, good), numbers(1, 2, 3, 4), 4)
	checkpoints := map[string]map[string]string{
		"a spoilt manifest":                with(good, "manifest", spoil(good["manifest"], 6)),
		"a manifest that ends early":       with(good, "manifest", good["manifest"][:39]),
		"an empty manifest":                with(good, "manifest", ""),
		"a manifest with more behind":      with(good, "manifest", good["manifest"]+"x"),
		"a manifest of other numbers":      with(good, "manifest", manifest(2, 1, 4, 3)),
		"a manifest of too great an epoch": with(good, "manifest", manifest(2, 1, 3, api.MaxEpoch+1)),
		"a part that is missing":           without(good, "ckpt.2.0"),
		"a spoilt part":                    with(good, "ckpt.2.0", spoil(good["ckpt.2.0"], 9)),
		"a part that ends early":           with(good, "ckpt.2.0", good["ckpt.2.0"][:50]),
		"a row ahead of all tables":        with(good, "ckpt.2.0", frames("\x02"+rowBytes(num(1)), schemaBody(plain("t")), "\x02"+rowBytes(num(2)))),
		"a row that does not fit":          with(good, "ckpt.2.0", frames(schemaBody(plain("t")), "\x02"+rowBytes(num(1)), "\x02"+rowBytes(txt("x")))),
		"rows that do not rise":            with(good, "ckpt.2.0", frames(schemaBody(plain("t")), "\x02"+rowBytes(num(2)), "\x02"+rowBytes(num(1)))),
		"two rows that clash, one of which goes by a log": both(good, checkpoint(2, []modelTable{{example("e", true), []row{{num(1), txt("x")}, {num(2), txt("x")}}}}, 3),
			map[string]string{"log.0.0": logged(entry(4, 0, gone("e", num(1)))), "log.1.2": ""}),
	}
	logs := map[string]map[string]string{
		"a spoilt log":                       with(good, "log.0.0", spoil(good["log.0.0"], 10)),
		"a spoilt log of what does not last": with(good, "log.1.2", spoil(good["log.1.2"], len(good["log.1.2"])-1)),
		"a log of no entries":                with(good, "log.0.1", framed("x")),
		"a log that nobody wrote":            with(good, "log.77.0", "no frame at all"),
		"spoilt marks":                       with(good, "epoch", spoil(good["epoch"], 4)),
		"marks that do not rise":             with(good, "epoch", marked(4, 4)),
		"a mark of 0":                        with(good, "epoch", marked(0)),
		"a mark above all":                   with(good, "epoch", marked(api.MaxEpoch+1)),
		"a mark that is no number":           with(good, "epoch", framed("1234567")),
	}
	all := maps.Clone(checkpoints)
	maps.Copy(all, logs)
	for what, files := range all {
		if modelRead(files).code != api.ErrCorrupt {
			t.Error("the model takes", what)
		}
		refuses(t, what, laid(t, files), api.ErrCorrupt)
	}
	for of, files := range checkpoints {
		for what, others := range logs {
			spoilt := maps.Clone(files)
			for name, s := range others {
				if s != good[name] {
					spoilt[name] = s
				}
			}
			refuses(t, of+", and "+what, laid(t, spoilt), api.ErrCorrupt)
		}
	}
	// What ends early at a log's end was torn, and never counted.
	for size := range len(good["log.1.2"]) {
		files := with(good, "log.1.2", good["log.1.2"][:size])
		if got, want := readOf(t, laid(t, files)), modelRead(files).told(); got != want || want.code != api.OK {
			t.Errorf("torn at %d: %s, not %s", size, brief(got), brief(want))
		}
	}
}

// Of one key the write of the greatest word counts, whoever wrote it, and wherever it stands.
func TestOneKey(t *testing.T) {
	table := func(rows ...row) []modelTable { return []modelTable{{example("e", false), rows}} }
	is := func(s string) api.Write { return put("e", 1, num(1), txt(s)) }
	was := row{num(1), txt("was")}
	for _, x := range []struct {
		what  string
		files map[string]string
		want  []row
	}{
		{"one", map[string]string{"log.0.0": logged(entry(4, 0, is("a")))}, []row{{num(1), txt("a")}}},
		{"two of a worker", map[string]string{"log.0.0": logged(entry(4, 0, is("a")), entry(4, 1, is("b")))}, []row{{num(1), txt("b")}}},
		{"two of an entry", map[string]string{"log.0.0": logged(entry(4, 0, is("a"), is("b")))}, []row{{num(1), txt("b")}}},
		{"two of workers, the first one's is greater", map[string]string{"log.0.0": logged(entry(5, 0, is("a"))), "log.1.0": logged(entry(4, 9, is("b")))}, []row{{num(1), txt("a")}}},
		{"two of workers, the second one's is greater", map[string]string{"log.0.0": logged(entry(4, 3, is("a"))), "log.1.0": logged(entry(4, 9, is("b")))}, []row{{num(1), txt("b")}}},
		{"of generations, the older one's is greater", map[string]string{"log.0.0": logged(entry(5, 0, is("a"))), "log.0.1": logged(entry(4, 9, is("b")))}, []row{{num(1), txt("a")}}},
		{"of one word, in the order of names", map[string]string{"log.0.10": logged(entry(5, 0, is("a"))), "log.0.9": logged(entry(5, 0, is("b")))}, []row{{num(1), txt("b")}}},
		{"of one word, in one file", map[string]string{"log.0.0": logged(entry(5, 0, is("a")), entry(5, 0, is("b")))}, []row{{num(1), txt("b")}}},
		{"words that do not rise in a file", map[string]string{"log.0.0": logged(entry(5, 2, is("a")), entry(5, 1, is("b")))}, []row{{num(1), txt("a")}}},
		{"gone", map[string]string{"log.0.0": logged(entry(4, 0, gone("e", num(1))))}, nil},
		{"gone behind a row", map[string]string{"log.0.0": logged(entry(4, 0, is("a")), entry(5, 0, gone("e", num(1))))}, nil},
		{"gone of another worker behind a row", map[string]string{"log.0.0": logged(entry(5, 0, gone("e", num(1)))), "log.1.0": logged(entry(4, 0, is("a")))}, nil},
		{"gone and back", map[string]string{"log.0.0": logged(entry(4, 0, gone("e", num(1))), entry(5, 0, is("a")))}, []row{{num(1), txt("a")}}},
		{"gone and back by one entry", map[string]string{"log.0.0": logged(entry(4, 0, gone("e", num(1)), is("a")))}, []row{{num(1), txt("a")}}},
		{"there and gone by one entry", map[string]string{"log.0.0": logged(entry(4, 0, is("a"), gone("e", num(1))))}, nil},
		{"gone twice", map[string]string{"log.0.0": logged(entry(4, 0, gone("e", num(1)), gone("e", num(1))), entry(5, 0, gone("e", num(1))))}, nil},
		{"gone, back and gone", map[string]string{"log.0.0": logged(entry(4, 0, gone("e", num(1))), entry(5, 0, gone("e", num(1)))), "log.5.0": logged(entry(4, 1, is("a")))}, nil},
		{"gone of a key that is not there", map[string]string{"log.0.0": logged(entry(4, 0, gone("e", num(2))))}, []row{was}},
		{"a row of another key", map[string]string{"log.0.0": logged(entry(4, 0, put("e", 1, num(0), null())))}, []row{{num(0), null()}, was}},
		{"the same row", map[string]string{"log.0.0": logged(entry(4, 0, is("was")))}, []row{was}},
		{"above the durable epoch", map[string]string{"log.0.0": logged(entry(4, 0, is("a")), entry(6, 0, is("b")))}, []row{{num(1), txt("a")}}},
		{"of the checkpoint's epoch", map[string]string{"log.0.0": logged(entry(3, 9, gone("e", num(1))))}, []row{was}},
	} {
		d := laid(t, both(checkpoint(0, table(was), 3), x.files, map[string]string{"epoch": marked(5)}))
		tells(t, x.what, d, table(x.want...), 5)
	}
}

// Each table has its own rows, whatever keys others have.
func TestKeysOfOtherTables(t *testing.T) {
	tables := func(a, b []int64) []modelTable {
		return []modelTable{{plain("a"), rowsOf(a...)}, {plain("ab"), nil}, {plain("b"), rowsOf(b...)}}
	}
	files := both(checkpoint(0, tables([]int64{1, 2}, []int64{1, 2}), 3), map[string]string{
		"epoch":   marked(9),
		"log.0.0": logged(entry(4, 0, gone("a", num(1)), put("b", 1, num(3))), entry(5, 0, put("a", 1, num(3)), gone("b", num(2)))),
		"log.1.0": logged(entry(4, 1, gone("a", num(3)), gone("b", num(3))), entry(6, 0, put("b", 1, num(2)))),
	})
	tells(t, "tables", laid(t, files), tables([]int64{2, 3}, []int64{1, 2}), 9)
}

// unfit are writes that do not fit the table t of plain, nor another one.
func unfit() []api.Write {
	one := []api.Value{num(1)}
	return []api.Write{
		{}, {Gone: true},
		put("u", 1, num(1)), gone("u", num(1)), put("", 1, num(1)), put("T", 1, num(1)), put("tt", 1, num(1)),
		{Table: "t", Row: one}, {Table: "t", Gone: true}, // no values at all
		{Table: "t", Key: "\x03\x80", Row: one}, {Table: "t", Key: "\x03\x80", Gone: true}, // no key's bytes
		{Table: "t", Key: "1", Row: one}, {Table: "t", Key: "1", Gone: true},
		{Table: "t", Key: "\x00", Gone: true}, {Table: "t", Key: "\xff", Gone: true}, {Table: "t", Key: strings.Repeat("\x03", api.MaxText), Gone: true},
		{Table: "t", Key: keyOf(num(1)) + "\x00", Row: one}, {Table: "t", Key: keyOf(num(1)) + "\x00", Gone: true},
		{Table: "t", Key: keyOf(num(1))[:8], Row: one}, {Table: "t", Key: keyOf(num(1))[:8], Gone: true},
		{Table: "t", Key: keyOf(num(1), num(1)), Row: one}, {Table: "t", Key: keyOf(num(1), num(1)), Gone: true}, // too many values
		{Table: "t", Key: keyOf(num(1), null()), Row: one}, {Table: "t", Key: keyOf(num(1), null()), Gone: true},
		{Table: "t", Key: keyOf(null()), Row: one}, {Table: "t", Key: keyOf(null()), Gone: true}, // other kinds
		{Table: "t", Key: keyOf(null()), Row: row{null()}},
		{Table: "t", Key: keyOf(txt("1")), Row: one}, {Table: "t", Key: keyOf(txt("1")), Gone: true},
		{Table: "t", Key: keyOf(txt("1")), Row: row{txt("1")}},
		{Table: "t", Key: keyOf(yes(1)), Gone: true}, {Table: "t", Key: keyOf(flo(1)), Gone: true}, {Table: "t", Key: keyOf(pair(1)), Gone: true},
		{Table: "t", Key: keyOf(num(1))}, // a Row that does not fit
		{Table: "t", Key: keyOf(num(1)), Row: row{num(1), num(1)}}, {Table: "t", Key: keyOf(num(1)), Row: row{num(1), null()}},
		{Table: "t", Key: keyOf(num(1)), Row: row{null()}}, {Table: "t", Key: keyOf(num(1)), Row: row{flo(1)}},
		{Table: "t", Key: keyOf(num(1)), Row: row{num(2)}}, {Table: "t", Key: keyOf(num(2)), Row: one}, // a Row of another key
		{Table: "t", Key: keyOf(num(1)), Row: row{num(-1)}},
	}
}

func TestWritesThatDoNotFit(t *testing.T) {
	t.Parallel()
	good := put("t", 1, num(7))
	base := both(checkpoint(0, numbers(1), 3), map[string]string{"epoch": marked(5)})
	for _, w := range unfit() {
		for what, files := range map[string]map[string]string{
			"alone":                        {"log.0.0": logged(entry(4, 0, w))},
			"behind another":               {"log.0.0": logged(entry(4, 0, good, w))},
			"ahead of another":             {"log.0.0": logged(entry(4, 0, w, good))},
			"in the last epoch":            {"log.0.0": logged(entry(4, 0, good), entry(5, api.MaxSeq, w))},
			"of another worker":            {"log.0.0": logged(entry(4, 0, good)), "log.15.0": logged(entry(4, 1, w))},
			"and that of a greater word":   {"log.0.0": logged(entry(4, 0, w), entry(5, 0, put("t", 1, num(1)), put("t", 1, num(2))))},
			"and gone by a greater word":   {"log.0.0": logged(entry(4, 0, w), entry(5, 0, gone("t", num(1)), gone("t", num(2))))},
			"and there was a lesser word":  {"log.0.0": logged(entry(4, 0, put("t", 1, num(1))), entry(5, 0, w))},
			"in the middle of many writes": {"log.0.0": logged(entry(4, 0, slices.Concat(slices.Repeat([]api.Write{good}, 50), []api.Write{w}, slices.Repeat([]api.Write{good}, 50))...))},
		} {
			refuses(t, what+": "+brief(w), laid(t, both(base, files)), api.ErrCorrupt)
		}
	}
	tells(t, "good alone", laid(t, with(base, "log.0.0", logged(entry(4, 0, good)))), numbers(1, 7), 5)
}

// Keys of several values, of all kinds; the columns behind them may be null.
func TestKeysOfManyValues(t *testing.T) {
	minus := math.Copysign(0, -1)
	values := row{yes(1), num(-1), flo(minus), pair(complex(minus, 0)), txt("a\x00b")}
	others := row{yes(0), num(1), flo(0), pair(complex(0, minus)), txt("a")}
	for key := 1; key <= 5; key++ {
		base := both(checkpoint(0, []modelTable{{kinds("k", key), []row{values}}}, 3), map[string]string{"epoch": marked(5)})
		written := func(w api.Write) map[string]string { return with(base, "log.0.0", logged(entry(4, 0, w))) }
		short := append(slices.Clone(others[:key]), make(row, 5-key)...)
		tells(t, "a row with nulls", laid(t, written(put("k", key, short...))), []modelTable{{kinds("k", key), []row{short, values}}}, 5)
		tells(t, "a row of the same key", laid(t, written(put("k", key, append(slices.Clone(values[:key]), short[key:]...)...))), []modelTable{{kinds("k", key), []row{append(slices.Clone(values[:key]), short[key:]...)}}}, 5)
		tells(t, "gone", laid(t, written(gone("k", values[:key]...))), []modelTable{{kinds("k", key), nil}}, 5)
		for many := range 6 {
			if many != key {
				refuses(t, "gone of too few or too many", laid(t, written(gone("k", values[:many]...))), api.ErrCorrupt)
				refuses(t, "too few or too many", laid(t, written(api.Write{Table: "k", Key: keyOf(values[:many]...), Row: values})), api.ErrCorrupt)
			}
		}
		for at := range key {
			for _, v := range append(slices.Clone(values), null()) {
				wrong := slices.Clone(values)
				if wrong[at] = v; v.Kind != values[at].Kind {
					refuses(t, "gone of another kind", laid(t, written(gone("k", wrong[:key]...))), api.ErrCorrupt)
					refuses(t, "another kind", laid(t, written(put("k", key, wrong...))), api.ErrCorrupt)
				}
			}
			wrong := slices.Clone(values)
			wrong[at] = others[at]
			refuses(t, "a row of another key", laid(t, written(api.Write{Table: "k", Key: keyOf(values[:key]...), Row: wrong})), api.ErrCorrupt)
		}
	}
	// -0 and +0 are two keys.
	x := api.Table{Name: "f", Columns: []api.Column{{Name: "a", Kind: api.VFloat}}, Key: 1}
	base := both(checkpoint(0, []modelTable{{x, []row{{flo(minus)}, {flo(0)}}}}, 3), map[string]string{"epoch": marked(5)})
	tells(t, "-0 is gone", laid(t, with(base, "log.0.0", logged(entry(4, 0, gone("f", flo(minus)))))), []modelTable{{x, []row{{flo(0)}}}}, 5)
	refuses(t, "a row of -0 by the key +0", laid(t, with(base, "log.0.0", logged(entry(4, 0, api.Write{Table: "f", Key: keyOf(flo(0)), Row: row{flo(minus)}})))), api.ErrCorrupt)
	// The longest key that an entry may have.
	y := api.Table{Name: "l", Columns: []api.Column{{Name: "a", Kind: api.VText}}, Key: 1}
	long := strings.Repeat("x", api.MaxText-3)
	base = both(checkpoint(0, []modelTable{{y, nil}}, 3), map[string]string{"epoch": marked(5)})
	tells(t, "a long key", laid(t, with(base, "log.0.0", logged(entry(4, 0, put("l", 1, txt(long)))))), []modelTable{{y, []row{{txt(long)}}}}, 5)
}

func TestClashes(t *testing.T) {
	e := func(n int64, s string) api.Write { return put("e", 1, num(n), txt(s)) }
	s := func(n, b int64, c string) api.Write { return put("s", 1, num(n), num(b), txt(c)) }
	base := []modelTable{
		{example("e", true), []row{{num(1), txt("x")}, {num(2), txt("y")}, {num(3), null()}}},
		{example("not", false), []row{{num(1), txt("x")}}},
		{several("s"), []row{{num(1), num(1), txt("a")}, {num(2), num(2), txt("b")}}},
	}
	for _, x := range []struct {
		what    string
		entries []api.Entry
		clash   bool
	}{
		{"with one of the checkpoint", []api.Entry{entry(4, 0, e(4, "x"))}, true},
		{"with one of the checkpoint, of a lesser key", []api.Entry{entry(4, 0, e(0, "y"))}, true},
		{"a row of the checkpoint that becomes like another one", []api.Entry{entry(4, 0, e(1, "y"))}, true},
		{"two new ones", []api.Entry{entry(4, 0, e(8, "z"), e(9, "z"))}, true},
		{"two new ones of two entries", []api.Entry{entry(4, 0, e(8, "z")), entry(5, 0, e(9, "z"))}, true},
		{"nulls do not", []api.Entry{entry(4, 0, put("e", 1, num(8), null()), put("e", 1, num(9), null()))}, false},
		{"an index that is not unique", []api.Entry{entry(4, 0, put("not", 1, num(2), txt("x")))}, false},
		{"the same row again", []api.Entry{entry(4, 0, e(1, "x"))}, false},
		{"in another table", []api.Entry{entry(4, 0, put("not", 1, num(8), txt("y")))}, false},
		{"the other one goes behind it", []api.Entry{entry(4, 0, e(0, "x"), gone("e", num(1)))}, false},
		{"the other one goes ahead of it", []api.Entry{entry(4, 0, gone("e", num(1)), e(4, "x"))}, false},
		{"the other one changes behind it", []api.Entry{entry(4, 0, e(0, "x"), e(1, "z"))}, false},
		{"the other one changes by a later entry", []api.Entry{entry(4, 0, e(0, "x")), entry(5, 7, e(1, "z"))}, false},
		{"it goes itself", []api.Entry{entry(4, 0, e(0, "x")), entry(4, 1, gone("e", num(0)))}, false},
		{"it changes itself", []api.Entry{entry(4, 0, e(0, "x")), entry(4, 1, e(0, "z"))}, false},
		{"two are swapped", []api.Entry{entry(4, 0, e(1, "y"), e(2, "x"))}, false},
		{"three go round", []api.Entry{entry(4, 0, e(1, "y"), e(2, "z"), e(3, "x"))}, false},
		{"two new ones, one of which goes", []api.Entry{entry(4, 0, e(8, "z"), e(9, "z")), entry(5, 0, gone("e", num(8)))}, false},
		{"gone and back", []api.Entry{entry(4, 0, gone("e", num(1))), entry(4, 1, e(4, "x")), entry(4, 2, e(1, "x")), entry(4, 3, gone("e", num(4)))}, false},
		{"gone and back, and the other one stays", []api.Entry{entry(4, 0, gone("e", num(1))), entry(4, 1, e(4, "x")), entry(4, 2, e(1, "x"))}, true},
		{"above the durable epoch", []api.Entry{entry(6, 0, e(4, "x"))}, false},
		{"what would mend it is above the durable epoch", []api.Entry{entry(5, 0, e(4, "x")), entry(6, 0, gone("e", num(1)))}, true},
		{"by the first of several", []api.Entry{entry(4, 0, s(3, 1, "c"))}, true},
		{"by the second of several", []api.Entry{entry(4, 0, s(3, 3, "a"))}, true},
		{"by both, with one", []api.Entry{entry(4, 0, s(3, 1, "a"))}, true},
		{"by both, with two", []api.Entry{entry(4, 0, s(3, 1, "b"))}, true},
		{"by none of several", []api.Entry{entry(4, 0, s(3, 3, "c"))}, false},
		{"on the way by the first of several", []api.Entry{entry(4, 0, s(3, 1, "c"), s(1, 4, "a"))}, false},
		{"on the way by the second of several", []api.Entry{entry(4, 0, s(3, 3, "a"), s(1, 1, "d"))}, false},
		{"on the way by both, and in the end by one", []api.Entry{entry(4, 0, s(3, 1, "a"), s(1, 4, "a"))}, true},
		{"on the way by both, with two", []api.Entry{entry(4, 0, s(3, 1, "b"), s(1, 2, "a"), gone("s", num(2)))}, false},
		{"by one with null in the other", []api.Entry{entry(4, 0, put("s", 1, num(3), null(), txt("a")))}, true},
		{"with nulls in both", []api.Entry{entry(4, 0, put("s", 1, num(3), null(), null()), put("s", 1, num(4), null(), null()))}, false},
	} {
		files := both(checkpoint(0, base, 3), map[string]string{"epoch": marked(5), "log.0.0": logged(x.entries...)})
		want := modelRead(files)
		if (want.code == api.ErrCorrupt) != x.clash {
			t.Errorf("%s: the model tells %d", x.what, want.code)
		}
		if x.clash {
			refuses(t, x.what, laid(t, files), api.ErrCorrupt)
		} else {
			tells(t, x.what, laid(t, files), want.tables, 5)
		}
		// The same, with a worker for each entry.
		files = without(files, "log.0.0")
		for n, y := range x.entries {
			files[fmt.Sprintf("log.%d.%d", len(x.entries)-n, n)] = logged(y)
		}
		if got := readOf(t, laid(t, files)); got != want.told() {
			t.Errorf("%s: %s, not %s", x.what, brief(got), brief(want.told()))
		}
	}
}

// count are the whole numbers from one up to another one.
func count(from, to int) []int64 {
	var list []int64
	for n := from; n < to; n++ {
		list = append(list, int64(n))
	}
	return list
}

// puts are entries of one epoch that put such rows, some at a time.
func puts(epoch int, list []int64) (out []api.Entry) {
	for some := range slices.Chunk(list, 1000) {
		x := entry(epoch, len(out))
		for _, n := range some {
			x.Writes = append(x.Writes, put("t", 1, num(n)))
		}
		out = append(out, x)
	}
	return out
}

func TestManyRows(t *testing.T) {
	t.Parallel()
	const most = api.MaxItems
	over := entry(5, 0, put("t", 1, num(most)))
	for _, x := range []struct {
		what    string
		rows    []int64
		entries []api.Entry
		want    []int64 // nil: too many
	}{
		{"as many as may be in the checkpoint", count(0, most), nil, count(0, most)},
		{"as many as may be in the logs", nil, puts(4, count(0, most)), count(0, most)},
		{"as many as may be in both", count(0, 2000), puts(4, count(1000, most)), count(0, most)},
		{"one more than the checkpoint has", count(0, most), []api.Entry{over}, nil},
		{"one more, ahead of all", count(0, most), []api.Entry{entry(5, 0, put("t", 1, num(-1)))}, nil},
		{"one more than the logs have", nil, puts(4, count(0, most+1)), nil},
		{"one more than both have", count(0, 2000), append(puts(4, count(1000, most)), over), nil},
		{"one in the place of one that was there", count(0, most), []api.Entry{entry(5, 0, put("t", 1, num(9)))}, count(0, most)},
		{"one more, and one goes behind it", count(0, most), []api.Entry{over, entry(5, 1, gone("t", num(0)))}, count(1, most+1)},
		{"one more, and one goes ahead of it", count(0, most), []api.Entry{entry(4, 1, gone("t", num(0))), over}, count(1, most+1)},
		{"one more, and it goes", count(0, most), []api.Entry{over, entry(5, 1, gone("t", num(most)))}, count(0, most)},
		{"one more, and none goes that is there", count(0, most), []api.Entry{over, entry(5, 1, gone("t", num(-1)))}, nil},
		{"one goes and comes back, and one more", count(0, most), []api.Entry{entry(4, 1, gone("t", num(0))), over, entry(5, 1, put("t", 1, num(0)))}, nil},
		{"twice as many on the way", count(0, most), append(puts(4, count(most, 2*most)), goneAll(5, count(0, most))...), count(most, 2*most)},
		{"one more than may be behind many on the way", count(0, most), append(puts(4, count(most, 2*most)), goneAll(5, count(1, most))...), nil},
		{"none in the end", count(0, most), append(puts(4, count(most, 2*most)), goneAll(5, count(0, 2*most))...), []int64{}},
		{"one more above the durable epoch", count(0, most), []api.Entry{entry(6, 0, put("t", 1, num(-1)))}, count(0, most)},
	} {
		files := with(checkpoint(0, numbers(x.rows...), 3), "epoch", marked(5))
		for n, y := range x.entries {
			files[fmt.Sprintf("log.%d.0", n)] = logged(y)
		}
		if x.want == nil {
			refuses(t, x.what, laid(t, files), api.ErrCorrupt)
		} else {
			tells(t, x.what, laid(t, files), numbers(x.want...), 5)
		}
	}
}

// goneAll are entries of one epoch that take such rows.
func goneAll(epoch int, list []int64) (out []api.Entry) {
	for some := range slices.Chunk(list, 1000) {
		x := entry(epoch, len(out))
		for _, n := range some {
			x.Writes = append(x.Writes, gone("t", num(n)))
		}
		out = append(out, x)
	}
	return out
}

// Tables are full one by one: what one has does not count for another.
func TestManyRowsOfTwoTables(t *testing.T) {
	t.Parallel()
	base := []modelTable{{plain("a"), rowsOf(count(0, api.MaxItems)...)}, {plain("b"), rowsOf(count(0, api.MaxItems-1)...)}}
	files := both(checkpoint(0, base, 3), map[string]string{"epoch": marked(5), "log.0.0": logged(entry(4, 0, put("b", 1, num(-7))))})
	base[1].rows = rowsOf(append([]int64{-7}, count(0, api.MaxItems-1)...)...)
	tells(t, "the other one has room", laid(t, files), base, 5)
	files["log.0.1"] = logged(entry(4, 1, put("b", 1, num(-8))))
	refuses(t, "both are full", laid(t, files), api.ErrCorrupt)
}

// All sorts of disks, and what they hold by the model; a disk that is down, or has no fuse left, tells the same.
func TestAllSorts(t *testing.T) {
	for what, files := range disks() {
		want := modelRead(files)
		if want.code != api.OK {
			t.Errorf("%s: the model refuses", what)
		}
		d := laid(t, files)
		tells(t, what, d, want.tables, want.epoch)
		d.Fuse(0)
		tells(t, "no change is left: "+what, d, want.tables, want.epoch)
		is(t, what, d.Append("more", ""), api.ErrDown)
		tells(t, "down: "+what, d, want.tables, want.epoch)
		d.Crash(nil)
		tells(t, "a crash: "+what, d, want.tables, want.epoch)
	}
	want := modelRead(disks()["all sorts"])
	if want.epoch != 9 || len(want.tables[0].rows) != 4 || len(want.tables[1].rows) != 1 || len(want.tables[3].rows) != 2 {
		t.Error("the model tells another thing:", brief(want))
	}
}

// Read makes no change: a fuse of one is still there behind it.
func TestReadTakesNothingOfAFuse(t *testing.T) {
	for what, files := range disks() {
		d := laid(t, files)
		d.Fuse(1)
		readOf(t, d)
		is(t, what, d.Append("more", "x"), api.OK)
		is(t, what, d.Sync("more"), api.ErrDown)
	}
}

// What was not synced counts as long as it is there; Read makes nothing of it safe.
func TestReadOfATail(t *testing.T) {
	d := laid(t, checkpoint(0, numbers(1), 3))
	d.Append("log.0.0", logged(small(4, 0, 2)))
	d.Append("epoch", marked(4))
	tells(t, "a tail", d, numbers(1, 2), 4)
	d.Crash(nil)
	tells(t, "lost", d, numbers(1), 3)
}
