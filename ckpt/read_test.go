package ckpt_test

import (
	"fmt"
	"maps"
	"math"
	"strings"
	"testing"

	"hopper/api"
	"hopper/ckpt"
	"hopper/disk"
)

// 19.1: a checkpoint is read.

func TestReadOfNothing(t *testing.T) {
	if data, n, e := ckpt.Read(nil); data != nil || n != 0 || e != api.ErrNone {
		t.Error(data, n, e)
	}
	refuses(t, "an empty disk", disk.New(), api.ErrNone)
	whole := checkpoint(modelBodies(chapters())...)
	refuses(t, "parts alone", laid(t, without(whole, "manifest")), api.ErrNone)
	refuses(t, "spoilt parts alone", laid(t, map[string]string{"ckpt.0.0": "x"}), api.ErrNone)
	for _, name := range []string{"manifest.new", "manifest.", "manifest.0", ".manifest", "manifes", "manifests", "ckpt.manifest"} {
		refuses(t, name, laid(t, with(without(whole, "manifest"), name, whole["manifest"])), api.ErrNone)
	}
	// It is there from the first byte on, and without one.
	for _, s := range []string{"", "x", manifest(), manifest(0, 0, 0)} {
		refuses(t, "a file manifest", laid(t, map[string]string{"manifest": s}), api.ErrCorrupt)
	}
}

func TestReadOfTheExample(t *testing.T) {
	schema := "\x01" + text("t") + word(1) + text("a") + word(2) + word(1) + word(0)
	one, two := "\x02\x01\x02"+word(1), "\x02\x01\x02"+word(2)
	takes(t, "the example", chapters(), schema, one, two)
	tells(t, "no tables", laid(t, map[string]string{"manifest": manifest(0, 0, 0, 7)}), nil, 7)
	takes(t, "a table without rows", []modelTable{{plain("t"), nil}}, schema)
	takes(t, "tables of all sorts", mixed(), modelBodies(mixed())...)
}

func TestManifests(t *testing.T) {
	files := checkpoint(modelBodies(chapters())...)
	good := files["manifest"]
	spoil := func(at int) string {
		b := []byte(good)
		b[at] ^= 1
		return string(b)
	}
	bad := []string{
		"", good + "x", good + "\x00", "x" + good, good + good, good + framed(""), framed("") + good, good + manifest(0, 0, 0, 1),
		manifest(), manifest(0), manifest(0, 1), manifest(0, 1, 3), manifest(0, 1, 3, 3, 0), manifest(0, 1, 3, 3, 3), manifest(0, 1, 3, 3, 0, 1, 3, 3),
		framed(good[4:35]), framed(good[4:36] + "\x00"), framed(good[5:36]), framed("\x00" + good[4:36]), good[4:36],
		spoil(0), spoil(4), spoil(35), spoil(36), spoil(39), "\x21" + good[1:] + "x", "\xff\xff\xff\xff" + good[4:],
	}
	for cut := range good {
		bad = append(bad, good[:cut])
	}
	for _, s := range bad {
		refuses(t, brief([]byte(s)), laid(t, with(files, "manifest", s)), api.ErrCorrupt)
	}
	tells(t, "a good one", laid(t, files), chapters(), 3)
}

// What numbers may be: N and the epoch.
func TestNumbersOfAManifest(t *testing.T) {
	part := frames(modelBodies(chapters())...)
	good := []uint64{0, 1, 9, 10, 255, 256, 65535, 65536, api.MaxEpoch - 1, api.MaxEpoch}
	bad := []uint64{api.MaxEpoch + 1, api.MaxEpoch + 2, 1<<32 - 1, 1 << 32, 1<<32 + 1, 1 << 40, 1 << 62, 1<<63 - 1, 1 << 63, 1<<63 + 1, 1<<63 + 5, math.MaxUint64 - 1, math.MaxUint64}
	for _, n := range good {
		what := fmt.Sprint("N ", n)
		tells(t, what, laid(t, map[string]string{"manifest": manifest(n, 0, 0, 3)}), nil, 3)
		name := fmt.Sprintf("ckpt.%d.0", n)
		tells(t, what, laid(t, map[string]string{"manifest": manifest(n, 1, 3, 3), name: part}), chapters(), 3)
		// Other numbers' parts are not looked at.
		tells(t, what, laid(t, map[string]string{"manifest": manifest(n, 1, 3, 3), name: part, "ckpt.7.0": "x", "ckpt.2147483649.0": part}), chapters(), 3)
		tells(t, fmt.Sprint("the epoch ", n), laid(t, map[string]string{"manifest": manifest(0, 1, 3, n), "ckpt.0.0": part}), chapters(), int(n))
		tells(t, fmt.Sprint("the epoch ", n), laid(t, map[string]string{"manifest": manifest(5, 0, 0, n)}), nil, int(n))
	}
	for _, n := range bad {
		files := map[string]string{"ckpt.0.0": part, fmt.Sprintf("ckpt.%d.0", n): part, fmt.Sprintf("ckpt.%d.0", uint32(n)): part}
		for what, s := range map[string]string{"N": manifest(n, 1, 3, 3), "N without parts": manifest(n, 0, 0, 3), "the epoch": manifest(0, 1, 3, n), "the epoch without parts": manifest(0, 0, 0, n), "both": manifest(n, 0, 0, n)} {
			refuses(t, fmt.Sprint(what, " ", n), laid(t, with(files, "manifest", s)), api.ErrCorrupt)
		}
	}
}

// How many parts and frames there are to be. (Of as many as may be told some are missing in any case: a disk has no room for them.)
func TestCountsOfAManifest(t *testing.T) {
	part := frames(modelBodies(chapters())...)
	far := []uint64{255, 256, 257, 65536, 1<<24 - 1, 1 << 24, 1<<24 + 1, 1 << 31, 1 << 32, 1<<32 + 1, 1<<32 + 3, 1 << 56, 1<<62 + 3, 1 << 63, 1<<63 + 1, 1<<63 + 3, math.MaxUint64}
	for _, n := range append(far, 0, 2, 3, 64, 65) {
		refuses(t, fmt.Sprint(n, " parts"), laid(t, map[string]string{"manifest": manifest(0, n, 3, 3), "ckpt.0.0": part}), api.ErrCorrupt)
	}
	for _, n := range append(far, 0, 1, 2, 4, 5, 6) {
		refuses(t, fmt.Sprint(n, " frames"), laid(t, map[string]string{"manifest": manifest(0, 1, n, 3), "ckpt.0.0": part}), api.ErrCorrupt)
		refuses(t, fmt.Sprint(n, " frames of two parts"), laid(t, map[string]string{"manifest": manifest(0, 2, n, 3), "ckpt.0.0": part, "ckpt.0.1": ""}), api.ErrCorrupt)
	}
	for _, n := range far {
		refuses(t, fmt.Sprint(n, " of both"), laid(t, map[string]string{"manifest": manifest(0, n, n, 3), "ckpt.0.0": part}), api.ErrCorrupt)
		refuses(t, fmt.Sprint(n, " parts without any"), laid(t, map[string]string{"manifest": manifest(0, n, 0, 3)}), api.ErrCorrupt)
		refuses(t, fmt.Sprint(n, " frames without any"), laid(t, map[string]string{"manifest": manifest(0, 0, n, 3)}), api.ErrCorrupt)
	}
	// As many parts as a disk has room for, and one more.
	full := map[string]string{"manifest": manifest(0, 63, 3, 3), "ckpt.0.62": part}
	for n := range 62 {
		full[fmt.Sprintf("ckpt.0.%d", n)] = ""
	}
	tells(t, "63 parts", laid(t, full), chapters(), 3)
	refuses(t, "64 parts", laid(t, with(full, "manifest", manifest(0, 64, 3, 3))), api.ErrCorrupt)
}

// Parts are read by their numbers, wherever one ends and the next one begins.
func TestPartsHoweverTheyAreDivided(t *testing.T) {
	bodies := modelBodies(chapters())
	for a := range len(bodies) + 1 {
		for b := a; b <= len(bodies); b++ {
			files := map[string]string{"manifest": manifest(7, 3, 3, 3), "ckpt.7.0": frames(bodies[:a]...), "ckpt.7.1": frames(bodies[a:b]...), "ckpt.7.2": frames(bodies[b:]...)}
			tells(t, "divided", laid(t, files), chapters(), 3)
			for _, missing := range []string{"ckpt.7.0", "ckpt.7.1", "ckpt.7.2"} {
				less := without(files, missing)
				refuses(t, missing+" is missing", laid(t, less), api.ErrCorrupt)
				for _, other := range []string{"ckpt.7.3", "ckpt.07.0", "ckpt.7.00", "ckpt.7.01", "ckpt.7.02", "ckpt.8.0", "ckpt.6.1", "ckpt.7", "ckpt.7.", "ckpt.77.0"} {
					refuses(t, missing+" is "+other, laid(t, with(less, other, files[missing])), api.ErrCorrupt)
				}
			}
		}
	}
	// By numbers, not by bytes: 10 stands behind 9.
	files := map[string]string{}
	all := []modelTable{{schema: plain("t")}}
	for n := range 12 {
		all[0].rows = append(all[0].rows, row{num(int64(n))})
		files[fmt.Sprintf("ckpt.10.%d", n)] = frames(rowBody(num(int64(n))))
	}
	files["ckpt.10.0"] = frames(modelBodies(all)[:2]...)
	files["manifest"] = manifest(10, 12, 13, 4)
	tells(t, "twelve parts", laid(t, files), all, 4)
}

// Two parts of which one has changed its place with the other.
func TestPartsInWrongOrder(t *testing.T) {
	a, b := frames(modelBodies(chapters())[:2]...), frames(modelBodies(chapters())[2])
	m := manifest(0, 2, 3, 3)
	tells(t, "in order", laid(t, map[string]string{"manifest": m, "ckpt.0.0": a, "ckpt.0.1": b}), chapters(), 3)
	refuses(t, "not in order", laid(t, map[string]string{"manifest": m, "ckpt.0.0": b, "ckpt.0.1": a}), api.ErrCorrupt)
}

func TestSpoiltParts(t *testing.T) {
	bodies := modelBodies(chapters())
	good := frames(bodies...)
	files := checkpoint(bodies...)
	for cut := range good {
		refuses(t, fmt.Sprint("cut at ", cut), laid(t, with(files, "ckpt.0.0", good[:cut])), api.ErrCorrupt)
		// Whatever the manifest tells of frames: a frame that ends early is none.
		for many := range uint64(4) {
			s := with(files, "manifest", manifest(0, 1, many, 3))
			d := laid(t, with(s, "ckpt.0.0", good[:cut]))
			if list, fine := modelFrames(good[:cut]); fine && len(list) == int(many) {
				if data, n, e := ckpt.Read(d); data == nil || n != 3 || e != api.OK {
					t.Error(cut, many, data, n, e)
				}
				continue
			}
			refuses(t, fmt.Sprint("cut at ", cut, ", frames ", many), d, api.ErrCorrupt)
		}
	}
	for _, s := range []string{"x", "\x00", "\x00\x00\x00\x00", "\x00\x00\x00\x00\x00\x00\x00\x00", "\xff\xff\xff\xff", "\x01\x00\x01\x00", framed(bodies[2])[:8], framed("")[:7]} {
		refuses(t, "bytes behind", laid(t, with(files, "ckpt.0.0", good+s)), api.ErrCorrupt)
		refuses(t, "bytes ahead", laid(t, with(files, "ckpt.0.0", s+good)), api.ErrCorrupt)
		refuses(t, "bytes between", laid(t, with(files, "ckpt.0.0", frames(bodies[:2]...)+s+frames(bodies[2]))), api.ErrCorrupt)
		both := map[string]string{"manifest": manifest(0, 2, 3, 3), "ckpt.0.0": frames(bodies[:2]...) + s, "ckpt.0.1": frames(bodies[2])}
		refuses(t, "bytes behind the first part", laid(t, both), api.ErrCorrupt)
	}
}

// A frame is not divided: its bytes stand in one part.
func TestFramesAreNotDivided(t *testing.T) {
	good := frames(modelBodies(chapters())...)
	ends := map[int]bool{0: true, len(good): true}
	for n := range 3 {
		ends[len(frames(modelBodies(chapters())[:n]...))] = true
	}
	for cut := range len(good) + 1 {
		d := laid(t, map[string]string{"manifest": manifest(0, 2, 3, 3), "ckpt.0.0": good[:cut], "ckpt.0.1": good[cut:]})
		if ends[cut] {
			tells(t, "at an end", d, chapters(), 3)
		} else {
			refuses(t, fmt.Sprint("cut at ", cut), d, api.ErrCorrupt)
		}
	}
}

// More parts than the manifest tells say nothing, whatever they have: a Write may have left them.
func TestMorePartsThanTheManifestTells(t *testing.T) {
	files := checkpoint(modelBodies(chapters())...)
	for _, s := range []string{"", "x", framed(""), frames(rowBody(num(3))), frames(modelBodies(mixed())...)} {
		for _, name := range []string{"ckpt.0.1", "ckpt.0.2", "ckpt.1.0", "ckpt.1.1", "ckpt.00.0", "ckpt.0.00", "ckpt.0.01", "manifest.new", "log.0.0", "epoch", "a"} {
			tells(t, name, laid(t, with(files, name, s)), chapters(), 3)
			tells(t, name+" of no parts", laid(t, map[string]string{"manifest": manifest(0, 0, 0, 5), name: s}), nil, 5)
		}
		tells(t, "a first part of no parts", laid(t, map[string]string{"manifest": manifest(0, 0, 0, 5), "ckpt.0.0": s}), nil, 5)
	}
}

// What frames hold.

func TestFramesOfOneByte(t *testing.T) {
	bodies := modelBodies(chapters())
	for n := range 257 {
		s := ""
		if n < 256 {
			s = string([]byte{byte(n)})
		}
		corrupt(t, "alone", s)
		for at := range len(bodies) + 1 {
			list := append(append(append([]string{}, bodies[:at]...), s), bodies[at:]...)
			corrupt(t, fmt.Sprint("the byte ", n, " at ", at), list...)
		}
	}
}

func TestFirstBytes(t *testing.T) {
	bodies := modelBodies(chapters())
	for at := range bodies {
		for n := range 256 {
			list := append([]string{}, bodies...)
			list[at] = string([]byte{byte(n)}) + bodies[at][1:]
			if list[at] == bodies[at] {
				takes(t, "as it was", chapters(), list...)
			} else {
				corrupt(t, fmt.Sprint("the byte ", n, " at ", at), list...)
			}
		}
		list := append([]string{}, bodies...)
		list[at] = bodies[at][1:]
		corrupt(t, fmt.Sprint("none at ", at), list...)
	}
}

func TestRowsAheadOfAllSchemas(t *testing.T) {
	s, a, b := schemaBody(plain("t")), rowBody(num(1)), rowBody(num(2))
	corrupt(t, "a row alone", a)
	corrupt(t, "a row ahead", a, s)
	corrupt(t, "a row ahead of a row", a, s, b)
	corrupt(t, "a row without values", rowBody())
	corrupt(t, "a row without values ahead", rowBody(), s)
	takes(t, "behind", chapters(), s, a, b)
}

// wrongSchemas are such that may not be.
func wrongSchemas() []api.Table {
	base := func() api.Table { return example("t", true) }
	var out []api.Table
	add := func(change func(x *api.Table)) {
		x := base()
		change(&x)
		out = append(out, x)
	}
	for _, name := range []string{"", "T", "a.b", "a b", "\x00", "ä", strings.Repeat("a", api.MaxName+1)} {
		add(func(x *api.Table) { x.Name = name })
		add(func(x *api.Table) { x.Columns[1].Name = name })
		add(func(x *api.Table) { x.Indexes[0].Name = name })
	}
	for _, key := range []int{math.MinInt, -1, 0, 3, math.MaxInt} {
		add(func(x *api.Table) { x.Key = key })
	}
	for _, kind := range []int{-1, api.VNull, 6, math.MaxInt} {
		add(func(x *api.Table) { x.Columns[1].Kind = kind })
	}
	add(func(x *api.Table) { x.Columns, x.Indexes = nil, nil })
	add(func(x *api.Table) { x.Columns[1].Name = "a" })
	add(func(x *api.Table) { x.Indexes = append(x.Indexes, x.Indexes[0]) })
	for _, list := range [][]int{nil, {-1}, {2}, {0, 2}, {math.MaxInt}, make([]int, api.MaxRow+1)} {
		add(func(x *api.Table) { x.Indexes[0].Columns = list })
	}
	add(func(x *api.Table) {
		for n := range 8 {
			x.Indexes = append(x.Indexes, api.Index{Name: fmt.Sprint("j", n), Columns: []int{0}})
		}
	})
	add(func(x *api.Table) { *x = wide("t"); x.Columns = append(x.Columns, api.Column{Name: "more", Kind: 1}) })
	return out
}

func TestSchemasThatMayNotBe(t *testing.T) {
	takes(t, "one that may be", []modelTable{{example("t", true), nil}}, schemaBody(example("t", true)))
	for _, x := range wrongSchemas() {
		corrupt(t, brief(x), schemaBody(x))
		corrupt(t, brief(x), schemaBody(plain("a")), schemaBody(x))
		corrupt(t, brief(x), schemaBody(x), schemaBody(plain("zz")))
	}
}

func TestBytesThatAreNoSchema(t *testing.T) {
	s := schemaBody(example("t", true))
	next := schemaBody(plain("u"))
	for cut := 1; cut < len(s); cut++ {
		corrupt(t, fmt.Sprint("cut at ", cut), s[:cut])
		corrupt(t, fmt.Sprint("cut at ", cut, ", and another"), s[:cut], next)
	}
	for n := range 256 {
		corrupt(t, fmt.Sprint("a byte ", n, " behind"), s+string([]byte{byte(n)}))
		if n > 1 {
			corrupt(t, fmt.Sprint("the flag ", n), s[:len(s)-1]+string([]byte{byte(n)}))
		}
	}
	// Two in one frame, though each of them may be, and their names rise.
	corrupt(t, "twice", s+s[1:])
	corrupt(t, "two", s+next[1:])
	corrupt(t, "two with their bytes", s+next)
	corrupt(t, "two, and a row", s+next[1:], rowBody(num(1)))
	corrupt(t, "a row's bytes", "\x01"+rowBody(num(1))[1:])
	corrupt(t, "many columns", "\x01"+text("t")+word(1<<62)+text("a")+word(2)+word(1)+word(0))
	corrupt(t, "a long name", "\x01"+word(1<<63)+"t"+word(1)+text("a")+word(2)+word(1)+word(0))
	corrupt(t, "as many bytes as may be", "\x01"+strings.Repeat("\x00", api.MaxFrame-1))
}

// Schemas stand by their names, by bytes, rising; between them there may be rows.
func TestOrderOfSchemas(t *testing.T) {
	names := []string{"0", "00", "01", "1", "10", "2", "9", "a", "aa", "ab", "b", "z", "zz"}
	for i, a := range names {
		for j, b := range names {
			for _, bodies := range [][]string{{schemaBody(plain(a)), schemaBody(plain(b))}, {schemaBody(plain(a)), rowBody(num(1)), schemaBody(plain(b)), rowBody(num(1))}} {
				if i >= j {
					corrupt(t, a+" ahead of "+b, bodies...)
					continue
				}
				want, _ := modelTables(bodies)
				takes(t, a+" ahead of "+b, want, bodies...)
			}
		}
	}
	// Held against the one ahead, which is not the first one.
	corrupt(t, "a c b", schemaBody(plain("a")), schemaBody(plain("c")), schemaBody(plain("b")))
	corrupt(t, "a b a", schemaBody(plain("a")), schemaBody(plain("b")), schemaBody(plain("a")))
	// Another schema of the same name.
	corrupt(t, "the same name", schemaBody(plain("t")), schemaBody(example("t", true)))
	// Behind all rows of another table of that name, too.
	corrupt(t, "the same name behind rows", schemaBody(plain("t")), rowBody(num(1)), rowBody(num(2)), schemaBody(plain("t")), rowBody(num(3)))
}

func TestRowsThatDoNotFit(t *testing.T) {
	s := schemaBody(example("t", false))
	for _, r := range []row{{num(1), txt("x")}, {num(1), null()}, {num(math.MinInt64), txt("")}} {
		takes(t, brief(r), []modelTable{{example("t", false), []row{r}}}, s, rowBody(r...))
	}
	for _, r := range []row{{}, {num(1)}, {num(1), txt("x"), null()}, {null(), txt("x")}, {null(), null()}, {num(1), num(1)}, {txt("x"), num(1)}, {txt("1"), txt("x")}, {yes(1), txt("x")}, {flo(1), txt("x")}, {pair(1), txt("x")}, make(row, api.MaxRow)} {
		corrupt(t, brief(r), s, rowBody(r...))
		corrupt(t, brief(r), s, rowBody(num(-9), txt("a")), rowBody(r...))
	}
	for key := 1; key <= 5; key++ {
		x := kinds("k", key)
		good := row{yes(1), num(1), flo(1), pair(1), txt("x")}
		takes(t, "of all kinds", []modelTable{{x, []row{good}}}, schemaBody(x), rowBody(good...))
		for at := range good {
			r := append(row{}, good...)
			r[at] = null()
			if at < key {
				corrupt(t, fmt.Sprint("null at ", at), schemaBody(x), rowBody(r...))
			} else {
				takes(t, fmt.Sprint("null at ", at), []modelTable{{x, []row{r}}}, schemaBody(x), rowBody(r...))
			}
		}
	}
	// It is the last schema that a row has to fit, not one ahead.
	corrupt(t, "a row of the table ahead", schemaBody(plain("a")), rowBody(num(1)), s, rowBody(num(2)))
	corrupt(t, "a row of the table behind", schemaBody(plain("a")), rowBody(num(1), txt("x")), s)
}

func TestBytesThatAreNoRow(t *testing.T) {
	s := schemaBody(example("t", false))
	good := rowBody(num(1), txt("xyz"))
	for cut := 1; cut < len(good); cut++ {
		corrupt(t, fmt.Sprint("cut at ", cut), s, good[:cut])
	}
	for n := range 256 {
		corrupt(t, fmt.Sprint("a byte ", n, " behind"), s, good+string([]byte{byte(n)}))
		if n != 2 {
			corrupt(t, fmt.Sprint(n, " values"), s, "\x02"+string([]byte{byte(n)})+good[2:])
		}
	}
	corrupt(t, "twice", s, good+good[1:])
	corrupt(t, "a schema's bytes", s, "\x02"+s[1:])
	nan := "\x02\x01\x03\x00\x00\x00\x00\x00\x00\xf8\x7f"
	x := api.Table{Name: "t", Columns: []api.Column{{Name: "a", Kind: api.VFloat}}, Key: 1}
	corrupt(t, "a NaN", schemaBody(x), nan)
	corrupt(t, "a bool of 2", schemaBody(kinds("t", 1)), "\x02\x05\x01\x02\x00\x00\x00\x00")
	long := "\x02\x02\x02" + word(1) + "\x05\x01\x10" + strings.Repeat("m", api.MaxText+1)
	corrupt(t, "a text too long", s, long)
	corrupt(t, "as many bytes as may be", s, "\x02"+strings.Repeat("\x00", api.MaxFrame-1))
}

// Keys rise from row to row; those of each table begin anew.
func TestOrderOfKeys(t *testing.T) {
	minus := math.Copysign(0, -1)
	rising := map[int][]api.Value{
		api.VBool:  {yes(0), yes(1)},
		api.VInt:   {num(math.MinInt64), num(-256), num(-1), num(0), num(1), num(255), num(256), num(math.MaxInt64)},
		api.VFloat: {flo(math.Inf(-1)), flo(-1), flo(minus), flo(0), flo(1), flo(math.Inf(1))},
		api.VPair:  {pair(complex(-1, 5)), pair(complex(minus, 1)), pair(complex(0, minus)), pair(0), pair(1i), pair(1)},
		api.VText:  {txt(""), txt("\x00"), txt("A"), txt("a"), txt("aa"), txt("b"), txt("\xff")},
	}
	for kind, list := range rising {
		x := api.Table{Name: "t", Columns: []api.Column{{Name: "a", Kind: kind}, {Name: "b", Kind: api.VInt}}, Key: 1}
		for i, v := range list {
			for j, w := range list {
				a, b := row{v, num(int64(-i))}, row{w, num(int64(j))}
				if i < j {
					takes(t, "rising", []modelTable{{x, []row{a, b}}}, schemaBody(x), rowBody(a...), rowBody(b...))
				} else {
					corrupt(t, brief([]row{a, b}), schemaBody(x), rowBody(a...), rowBody(b...))
				}
			}
		}
	}
	s := schemaBody(plain("t"))
	corrupt(t, "1 3 2", s, rowBody(num(1)), rowBody(num(3)), rowBody(num(2)))
	corrupt(t, "1 2 1", s, rowBody(num(1)), rowBody(num(2)), rowBody(num(1)))
	corrupt(t, "the same key, of other values", schemaBody(example("t", false)), rowBody(num(1), txt("x")), rowBody(num(1), txt("y")))
	takes(t, "each table's own", []modelTable{{plain("t"), []row{{num(5)}}}, {plain("u"), []row{{num(4)}, {num(5)}}}, {plain("v"), []row{{num(-1)}}}}, s, rowBody(num(5)), schemaBody(plain("u")), rowBody(num(4)), rowBody(num(5)), schemaBody(plain("v")), rowBody(num(-1)))
}

// Of keys of several columns all count, and no other column does.
func TestOrderOfLongKeys(t *testing.T) {
	for key := 1; key <= 3; key++ {
		x := api.Table{Name: "t", Columns: []api.Column{{Name: "a", Kind: api.VInt}, {Name: "b", Kind: api.VText}, {Name: "c", Kind: api.VInt}}, Key: key}
		list := []row{{num(1), txt("a"), num(1)}, {num(1), txt("a"), num(2)}, {num(1), txt("b"), num(0)}, {num(2), txt(""), num(-1)}}
		for i, a := range list {
			for j, b := range list {
				bodies := []string{schemaBody(x), rowBody(a...), rowBody(b...)}
				want, good := modelTables(bodies)
				if rises := i < j && (key == 3 || key == 2 && (i > 0 || j > 1) || j == 3); rises != good {
					t.Fatal("the model errs:", key, i, j)
				}
				if good {
					takes(t, "rising", want, bodies...)
				} else {
					corrupt(t, brief([]row{a, b}), bodies...)
				}
			}
		}
	}
}

func TestRowsThatClash(t *testing.T) {
	s := schemaBody(example("t", true))
	one := rowBody(num(1), txt("x"))
	corrupt(t, "with the one ahead", s, one, rowBody(num(2), txt("x")))
	corrupt(t, "with one far ahead", s, one, rowBody(num(2), txt("y")), rowBody(num(3), null()), rowBody(num(4), txt("x")))
	corrupt(t, "of no text", s, rowBody(num(1), txt("")), rowBody(num(2), txt("")))
	takes(t, "nulls", []modelTable{{example("t", true), []row{{num(1), null()}, {num(2), null()}, {num(3), txt("")}}}}, s, rowBody(num(1), null()), rowBody(num(2), null()), rowBody(num(3), txt("")))
	takes(t, "an index that is not unique", []modelTable{{example("t", false), []row{{num(1), txt("x")}, {num(2), txt("x")}}}}, schemaBody(example("t", false)), one, rowBody(num(2), txt("x")))
	takes(t, "of another table", []modelTable{{example("t", true), []row{{num(1), txt("x")}}}, {example("u", true), []row{{num(2), txt("x")}}}}, s, one, schemaBody(example("u", true)), rowBody(num(2), txt("x")))
	// By any of several indexes, by several columns.
	x := kinds("k", 1)
	x.Columns[0].Kind = api.VInt
	x.Indexes[0].Columns = []int{4, 3, 2}
	a := row{num(1), num(1), flo(1), pair(1), txt("x")}
	for _, y := range []struct {
		r    row
		what string
	}{
		{row{num(2), num(1), flo(2), pair(2), txt("x")}, "by u"}, {row{num(2), num(2), flo(1), pair(1), txt("x")}, "by all"}, {row{num(2), num(1), flo(1), pair(1), txt("x")}, "by both"},
	} {
		corrupt(t, y.what, schemaBody(x), rowBody(a...), rowBody(y.r...))
	}
	minus := math.Copysign(0, -1)
	for _, r := range []row{{num(2), num(1), flo(2), pair(1), txt("y")}, {num(2), num(2), flo(2), pair(1), txt("x")}, {num(2), num(2), null(), pair(1), txt("x")}, {num(2), null(), null(), pair(1), txt("x")}, {num(2), num(2), flo(1), pair(complex(1, minus)), txt("x")}} {
		takes(t, brief(r), []modelTable{{x, []row{a, r}}}, schemaBody(x), rowBody(a...), rowBody(r...))
	}
}

// As many tables, and as many rows of one, as there may be; of one more there are no data.
func TestAsManyAsThereMayBe(t *testing.T) {
	t.Parallel()
	var list []modelTable
	var bodies []string
	for n := range api.MaxItems + 1 {
		list = append(list, modelTable{schema: plain(fmt.Sprintf("t%04d", n))})
		bodies = append(bodies, schemaBody(list[n].schema))
	}
	lay := func(bodies []string) *disk.Disk {
		files := map[string]string{}
		parts := modelParts(bodies)
		for n, s := range parts {
			files[fmt.Sprintf("ckpt.0.%d", n)] = s
		}
		files["manifest"] = manifest(0, uint64(len(parts)), uint64(len(bodies)), 3)
		return laid(t, files)
	}
	tells(t, "many tables", lay(bodies[:api.MaxItems]), list[:api.MaxItems], 3)
	refuses(t, "one table more", lay(bodies), api.ErrCorrupt)
	full := modelTable{schema: example("t", true)}
	bodies = []string{schemaBody(full.schema)}
	for n := range int64(api.MaxItems + 1) {
		full.rows = append(full.rows, row{num(n - 7), txt(fmt.Sprint(n * 7919 % 5000))})
		bodies = append(bodies, rowBody(full.rows[n]...))
	}
	refuses(t, "one row more", lay(bodies), api.ErrCorrupt)
	full.rows = full.rows[:api.MaxItems]
	tells(t, "many rows", lay(bodies[:api.MaxItems+1]), []modelTable{full}, 3)
}

// Read changes nothing: what is not synced is torn as before, and a fuse stays whole.
func TestReadChangesNothing(t *testing.T) {
	files := checkpoint(modelBodies(chapters())...)
	d := disk.New()
	for name, s := range files {
		d.Append(name, s)
	}
	d.Append("manifest.new", "x")
	d.Append("ckpt.7.0", "y")
	before := filesOf(d)
	d.Fuse(1)
	for range 2 {
		tells(t, "what is not synced", d, chapters(), 3)
	}
	holds(t, "Read", d, before)
	is(t, "the change that is left", d.Append("a", ""), api.OK)
	is(t, "one more", d.Append("a", ""), api.ErrDown)
	tells(t, "a disk that is down", d, chapters(), 3)
	d.Crash(nil)
	holds(t, "a crash", d, map[string]string{"manifest": "", "ckpt.0.0": "", "manifest.new": "", "ckpt.7.0": "", "a": ""})
	refuses(t, "a crash", d, api.ErrCorrupt)
}

// A byte that is another one is found, if it is no length's.
func TestBytesThatAreOthers(t *testing.T) {
	tables := mixed()
	for i := range tables {
		// Without the longest text: all places are taken.
		for j, r := range tables[i].rows {
			for at, v := range r {
				if len(v.S) > 10 {
					tables[i].rows[j][at] = txt("long")
				}
			}
		}
	}
	d := disk.New()
	for range 2 {
		if _, e := ckpt.Write(d, dataOf(t, tables), 300); e != api.OK {
			t.Fatal(e)
		}
	}
	files := filesOf(d)
	if len(files) != 2 {
		t.Fatal(maps.Keys(files))
	}
	many := 0
	for name, b := range files {
		for at := 0; at < len(b); {
			size := 8 + int(b[at]) + int(b[at+1])<<8
			for place := at + 4; place < at+size; place++ {
				for _, turn := range []byte{1, 2, 3, 128, 255} {
					many++
					spoilt := []byte(b)
					spoilt[place] ^= turn
					d := laid(t, with(files, name, string(spoilt)))
					if data, n, e := ckpt.Read(d); data != nil || n != 0 || e != api.ErrCorrupt {
						t.Fatalf("%s: the byte %d is %d: %v %d %d", name, place, spoilt[place], data, n, e)
					}
				}
			}
			at += size
		}
	}
	if many < 5000 {
		t.Error("few bytes:", many)
	}
}
