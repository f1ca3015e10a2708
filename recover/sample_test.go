package recover_test

import (
	"fmt"
	"math"
	"strings"

	"hopper/api"
)

// Tables and disks that many tests take.

// plain has one column, its key.
func plain(name string) api.Table {
	return api.Table{Name: name, Columns: []api.Column{{Name: "a", Kind: api.VInt}}, Key: 1}
}

// example is chapter 14's, with an index that is unique or not.
func example(name string, unique bool) api.Table {
	return api.Table{
		Name:    name,
		Columns: []api.Column{{Name: "a", Kind: api.VInt}, {Name: "b", Kind: api.VText}},
		Key:     1,
		Indexes: []api.Index{{Name: "i", Columns: []int{1}, Unique: unique}},
	}
}

// kinds has columns of all kinds, of which some are its key, and indexes of many sorts.
func kinds(name string, key int) api.Table {
	x := api.Table{Name: name, Key: key}
	for kind := api.VBool; kind <= api.VText; kind++ {
		x.Columns = append(x.Columns, api.Column{Name: string(rune('a' + kind)), Kind: kind})
	}
	x.Indexes = []api.Index{
		{Name: "all", Columns: []int{4, 3, 2, 1, 0}, Unique: true},
		{Name: "one", Columns: []int{3}},
		{Name: "twice", Columns: []int{4, 4}},
		{Name: "u", Columns: []int{1, 4}, Unique: true},
	}
	return x
}

// several has two unique indexes, of one column each, and one of both.
func several(name string) api.Table {
	return api.Table{
		Name:    name,
		Columns: []api.Column{{Name: "a", Kind: api.VInt}, {Name: "b", Kind: api.VInt}, {Name: "c", Kind: api.VText}},
		Key:     1,
		Indexes: []api.Index{{Name: "b", Columns: []int{1}, Unique: true}, {Name: "c", Columns: []int{2}, Unique: true}, {Name: "bc", Columns: []int{1, 2}}},
	}
}

// numbers is the table t of plain with these rows.
func numbers(list ...int64) []modelTable {
	return []modelTable{{plain("t"), rowsOf(list...)}}
}

func rowsOf(list ...int64) (out []row) {
	for _, n := range list {
		out = append(out, row{num(n)})
	}
	return out
}

// small is an entry that puts one row into the table t of plain.
func small(epoch, seq int, n int64) api.Entry { return entry(epoch, seq, put("t", 1, num(n))) }

// away is an entry that takes one row from it.
func away(epoch, seq int, n int64) api.Entry { return entry(epoch, seq, gone("t", num(n))) }

// mixed are tables of all sorts, with rows or without, in order.
func mixed() []modelTable {
	minus := math.Copysign(0, -1)
	return []modelTable{
		{plain("0"), rowsOf(math.MinInt64, -1, 0, math.MaxInt64)},
		{plain("00"), nil},
		{example("9z", true), []row{{num(-5), null()}, {num(1), txt("x")}, {num(2), txt("")}, {num(3), null()}, {num(4), txt("\x00\xff")}}},
		{example("a", false), []row{{num(1), txt("x")}, {num(2), txt("x")}, {num(3), txt("a")}}},
		{kinds("k1", 1), []row{
			{yes(0), num(1), flo(minus), pair(complex(minus, 0)), txt("x")},
			{yes(1), num(1), flo(0), pair(complex(0, minus)), txt("y")},
		}},
		{kinds("k4", 4), []row{
			{yes(0), num(1), flo(math.Inf(-1)), pair(complex(math.Inf(1), math.MaxFloat64)), txt("x")},
			{yes(0), num(1), flo(minus), pair(complex(minus, minus)), null()},
			{yes(0), num(1), flo(minus), pair(complex(minus, 0)), null()},
			{yes(0), num(1), flo(0), pair(complex(minus, 0)), txt(strings.Repeat("m", 3000))},
			{yes(1), num(-1), flo(math.SmallestNonzeroFloat64), pair(1i), txt("")},
		}},
		{kinds("k5", 5), nil},
		{several("s"), []row{{num(1), num(1), txt("a")}, {num(2), num(2), txt("b")}, {num(3), num(3), txt("c")}}},
		{plain(strings.Repeat("z", api.MaxName)), rowsOf(7)},
	}
}

// heavy has so many bytes that a checkpoint of it has several parts.
func heavy() []modelTable {
	x := plain("t")
	for n := range 10 {
		x.Columns = append(x.Columns, api.Column{Name: fmt.Sprint("t", n), Kind: api.VText})
	}
	out := modelTable{schema: x}
	for key := range int64(7) {
		r := row{num(key)}
		for n := range 10 {
			r = append(r, txt(strings.Repeat(string(rune('a'+n)), 4000)))
		}
		out.rows = append(out.rows, r)
	}
	return []modelTable{out}
}

// changed are entries on top of mixed, of the epochs 6 to 9.
func changed() []api.Entry {
	minus := math.Copysign(0, -1)
	return []api.Entry{
		entry(6, 0, put("0", 1, num(5)), gone("0", num(-1)), put("00", 1, num(1))),
		entry(6, 1, put("9z", 1, num(1), txt("")), put("9z", 1, num(2), txt("x"))),
		entry(7, 0, put("k5", 5, yes(1), num(2), flo(minus), pair(complex(minus, 1)), txt("\x00")), gone("k4", yes(1), num(-1), flo(math.SmallestNonzeroFloat64), pair(1i))),
		entry(7, 9, put("k4", 4, yes(0), num(1), flo(minus), pair(complex(minus, 0)), txt("new"))),
		entry(8, 0, gone("0", num(5)), gone("a", num(2)), put("s", 1, num(3), null(), txt("c")), put("s", 1, num(4), num(3), null())),
		entry(9, 0, put("0", 1, num(5)), put("k1", 1, yes(1), null(), null(), null(), null())),
	}
}

// severalParts takes much longer than all other disks.
const severalParts = "a checkpoint of several parts"

// disks are all sorts of those that Start takes, by what they are.
func disks() map[string]map[string]string {
	five := []modelTable{{plain("t"), rowsOf(1, 2)}, {example("u", true), []row{{num(1), txt("x")}}}}
	list := changed()
	return map[string]map[string]string{
		"empty":                              {},
		"a checkpoint without tables":        checkpoint(0, nil, 0),
		"a checkpoint without tables of 7":   checkpoint(3, nil, 7),
		"a checkpoint of 0":                  checkpoint(0, five, 0),
		"a checkpoint alone":                 checkpoint(4, five, 5),
		severalParts:                         both(checkpoint(1, heavy(), 5), map[string]string{"epoch": marked(4)}),
		"a checkpoint of the last epoch":     checkpoint(0, five, api.MaxEpoch),
		"marks alone":                        {"epoch": marked(2, 4)},
		"a mark of the last epoch":           both(checkpoint(0, five, 5), map[string]string{"epoch": marked(api.MaxEpoch), "log.3.0": logged(small(api.MaxEpoch, 3, 9))}),
		"marks that are torn":                {"epoch": marked(2, 4) + marked(5)[:7]},
		"a first mark that is torn":          {"epoch": marked(2)[:15]},
		"a file of marks without any":        both(checkpoint(0, five, 5), map[string]string{"epoch": ""}),
		"logs alone, of which nothing lasts": {"log.0.0": logged(small(1, 0, 1)), "log.1.0": logged(small(2, 0, 1))},
		"logs, all of which the checkpoint has": both(checkpoint(0, five, 5), map[string]string{
			"epoch": marked(5), "log.0.0": logged(small(4, 0, 9)), "log.1.0": logged(small(5, 0, 8)),
		}),
		"durable above the checkpoint": both(checkpoint(2, five, 5), map[string]string{
			"epoch": marked(5, 6, 8), "log.0.3": logged(small(6, 0, 9), away(8, 0, 1), small(9, 0, 7)), "log.1.3": logged(small(7, 0, 1)),
			"log.0.4": logged(entry(8, 1, put("u", 1, num(2), txt("y")))),
		}),
		"durable below the checkpoint": both(checkpoint(2, five, 5), map[string]string{
			"epoch": marked(3), "log.0.0": logged(small(3, 0, 9), small(4, 0, 8)), "log.1.0": logged(small(5, 0, 1), small(6, 0, 10)),
		}),
		"nothing durable below the checkpoint": both(checkpoint(2, five, 5), map[string]string{
			"log.0.0": logged(small(3, 0, 9)), "log.1.0": logged(small(6, 0, 10)),
		}),
		"all sorts": both(checkpoint(0, mixed(), 5), map[string]string{
			"epoch": marked(6, 7, 8, 9), "log.0.0": logged(list[0], list[3]), "log.1.0": logged(list[1]), "log.10.0": logged(list[2]), "log.2.1": logged(list[4], list[5]),
		}),
		"what crashes have left": both(checkpoint(2, five, 5), map[string]string{
			"epoch": marked(5, 6) + marked(7)[:3], "epoch.new": marked(5)[:9], "manifest.new": "torn", "ckpt.3.0": "torn", "ckpt.1.0": "old", "ckpt.1.1": "old",
			"log.0.0": logged(small(6, 0, 9)) + "\x05\x00", "log.1.0": logged(small(7, 0, 8))[:30], "log.2.0": "",
		}),
		"strange names": both(checkpoint(2, five, 5), map[string]string{
			"epoch": marked(6), "log.00.01": logged(small(6, 0, 9)), "log.7.003": logged(small(6, 1, 8)), "log.99999999999999999999.2": logged(away(6, 2, 1)),
			"log": "x", "log.": "x", "log.0": "x", "log.0.": "x", "log..0": "x", "log.0.0.0": "x", "log.0.x": "x", "log.x.9": "x", "alog.0.9": "x", "log.0.9.": "x", "log.0..9": "x", "log0.9": "x", "epoch.0": "x", "ckpt.0": "x", "other": "x",
		}),
		"great generations": both(checkpoint(2, five, 5), map[string]string{
			"epoch": marked(6), "log.0.99999999999999999999999": logged(small(6, 0, 9)), "log.1.1099511627777": logged(small(6, 1, 8)), "log.1.1099511627776": logged(small(6, 2, 7)), "log.1.2147483648": "",
		}),
	}
}
