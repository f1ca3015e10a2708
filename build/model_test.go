package build_test

import (
	"cmp"
	"encoding/binary"
	"fmt"
	"math"
	"slices"
	"strings"
	"testing"

	"hopper/api"
	"hopper/build"
	"hopper/schema"
	"hopper/table"
)

// The model is the chapter's words, written out as plainly as may be: a build has its rows now, in no order, and counts what is left; all else is looked for in the end.

type row = []api.Value

func num(n int64) api.Value { return api.Value{Kind: api.VInt, N: n} }

func txt(s string) api.Value { return api.Value{Kind: api.VText, S: s} }

func flo(x float64) api.Value { return api.Value{Kind: api.VFloat, C: complex(x, 0)} }

func pair(c complex128) api.Value { return api.Value{Kind: api.VPair, C: c} }

func yes(n int64) api.Value { return api.Value{Kind: api.VBool, N: n} }

func null() api.Value { return api.Value{} }

// keyOf are the bytes of a key by chapter 5's words, however many.
func keyOf(values ...api.Value) string {
	var out []byte
	for _, v := range values {
		out = append(out, byte(1+v.Kind))
		switch v.Kind {
		case api.VBool:
			out = append(out, byte(v.N))
		case api.VInt:
			out = binary.BigEndian.AppendUint64(out, uint64(v.N)+1<<63)
		case api.VFloat:
			out = appendFloat(out, real(v.C))
		case api.VPair:
			out = appendFloat(appendFloat(out, real(v.C)), imag(v.C))
		case api.VText:
			out = append(out, strings.ReplaceAll(v.S, "\x00", "\x00\xff")...)
			out = append(out, 0, 1)
		}
	}
	return string(out)
}

func appendFloat(out []byte, x float64) []byte {
	bits := math.Float64bits(x)
	if math.Signbit(x) {
		return binary.BigEndian.AppendUint64(out, ^bits)
	}
	return binary.BigEndian.AppendUint64(out, bits+1<<63)
}

// put is a write of a row whose first values are its key.
func put(name string, key int, values ...api.Value) api.Write {
	return api.Write{Table: name, Key: keyOf(values[:key]...), Row: values}
}

func gone(name string, key ...api.Value) api.Write {
	return api.Write{Table: name, Key: keyOf(key...), Gone: true}
}

// order is chapter 4's, for lists of any length.
func order(a, b row) int {
	for i := range min(len(a), len(b)) {
		if c := orderOfValues(a[i], b[i]); c != 0 {
			return c
		}
	}
	return cmp.Compare(len(a), len(b))
}

func orderOfValues(a, b api.Value) int {
	return cmp.Or(cmp.Compare(a.Kind, b.Kind), cmp.Compare(a.N, b.N), orderOfFloats(real(a.C), real(b.C)), orderOfFloats(imag(a.C), imag(b.C)), cmp.Compare(a.S, b.S))
}

func orderOfFloats(a, b float64) int {
	above := func(x float64) int {
		if math.Signbit(x) {
			return 0
		}
		return 1
	}
	if a == 0 && b == 0 {
		return above(a) - above(b)
	}
	return cmp.Compare(a, b)
}

type model struct {
	schema api.Table
	index  api.Index
	rows   []row // now
	left   int   // of the beginning's
	open   bool
}

func modelNew(t api.Table, x api.Index, rows []row) (*model, api.Errno) {
	if schema.Check(t) != api.OK {
		return nil, api.ErrSchema
	}
	for _, other := range t.Indexes {
		if other.Name == x.Name {
			return nil, api.ErrThere
		}
	}
	if schema.Check(with(t, x)) != api.OK {
		return nil, api.ErrSchema
	}
	if len(rows) > 4096 {
		return nil, api.ErrLong
	}
	for i, r := range rows {
		if schema.Fits(t, r) != api.OK || i > 0 && order(rows[i-1][:t.Key], r[:t.Key]) >= 0 {
			return nil, api.ErrRow
		}
	}
	return &model{schema: t, index: x, rows: slices.Clone(rows), left: len(rows), open: true}, api.OK
}

// with is a schema with one index more.
func with(t api.Table, x api.Index) api.Table {
	t.Indexes = append(slices.Clone(t.Indexes), x)
	return t
}

func (m *model) scan(most int) (int, api.Errno) {
	if !m.open {
		return 0, api.ErrBuild
	}
	if most < 1 {
		return 0, api.ErrRange
	}
	for range most {
		if m.left == 0 {
			break
		}
		m.left--
	}
	return m.left, api.OK
}

// isKey tells whether bytes are those of some key, value by value from the front.
func (m *model) isKey(k string) bool {
	for _, c := range m.schema.Columns[:m.schema.Key] {
		if k == "" || int(k[0]) != 1+c.Kind {
			return false
		}
		size := []int{api.VBool: 2, api.VInt: 9, api.VFloat: 9, api.VPair: 17, api.VText: strings.Index(k, "\x00\x01") + 2}[c.Kind]
		if size < 2 || size > len(k) || !isValue(c.Kind, k[1:size]) {
			return false
		}
		k = k[size:]
	}
	return k == ""
}

func isValue(kind int, b string) bool {
	switch kind {
	case api.VBool:
		return b == "\x00" || b == "\x01"
	case api.VFloat:
		return isFloat(b)
	case api.VPair:
		return isFloat(b[:8]) && isFloat(b[8:])
	case api.VText:
		// A 0 and the 255 behind it are one byte of the text; no other 0 may be there.
		s := strings.ReplaceAll(b[:len(b)-2], "\x00\xff", "z")
		return !strings.Contains(s, "\x00") && len(s) <= 4096
	}
	return true
}

func isFloat(b string) bool {
	bits := binary.BigEndian.Uint64([]byte(b))
	if bits>>63 == 1 {
		return !math.IsNaN(math.Float64frombits(bits - 1<<63))
	}
	return !math.IsNaN(math.Float64frombits(^bits))
}

func (m *model) write(w api.Write) api.Errno {
	if !m.open {
		return api.ErrBuild
	}
	if w.Table != m.schema.Name || !m.isKey(w.Key) {
		return api.ErrRow
	}
	if !w.Gone && (schema.Fits(m.schema, w.Row) != api.OK || keyOf(w.Row[:m.schema.Key]...) != w.Key) {
		return api.ErrRow
	}
	m.rows = slices.DeleteFunc(slices.Clone(m.rows), func(r row) bool { return keyOf(r[:m.schema.Key]...) == w.Key })
	if !w.Gone {
		m.rows = append(m.rows, slices.Clone(w.Row))
	}
	return api.OK
}

func (m *model) finish() ([]row, api.Errno) {
	if !m.open || m.left > 0 {
		return nil, api.ErrBuild
	}
	m.open = false
	for i, a := range m.rows {
		for _, b := range m.rows[:i] {
			if m.index.Unique && m.clash(a, b) {
				return nil, api.ErrUnique
			}
		}
	}
	var out []row
	for _, r := range m.rows {
		out = append(out, slices.Concat(columnsOf(r, m.index.Columns), r[:m.schema.Key]))
	}
	slices.SortFunc(out, order)
	return out, api.OK
}

func columnsOf(r row, columns []int) (out row) {
	for _, n := range columns {
		out = append(out, r[n])
	}
	return out
}

func (m *model) clash(a, b row) bool {
	values := columnsOf(a, m.index.Columns)
	hasNull := slices.ContainsFunc(values, func(v api.Value) bool { return v.Kind == api.VNull })
	return !hasNull && order(values, columnsOf(b, m.index.Columns)) == 0
}

func (m *model) abandon() api.Errno {
	if !m.open {
		return api.ErrBuild
	}
	m.open = false
	return api.OK
}

// tableIndex is chapter 15's Index of a table that has this index alone and these rows; ErrUnique, if it can't be.
func tableIndex(t *testing.T, x api.Table, i api.Index, rows []row) ([]row, api.Errno) {
	t.Helper()
	x.Indexes = []api.Index{i}
	d := table.New()
	if e := d.Create(x); e != api.OK {
		t.Fatal("Create:", e)
	}
	var ops []api.Op
	for _, r := range rows {
		ops = append(ops, api.Op{Kind: api.OInsert, Table: x.Name, Row: r})
	}
	results, done, e := d.Apply(ops)
	if e != api.OK {
		t.Fatal("Apply:", e)
	}
	if !done {
		return nil, results[len(results)-1].Code
	}
	list, e := d.Index(x.Name, i.Name)
	return list, e
}

// both is a build and what the model makes of the same calls; each call is held against it.
type both struct {
	t *testing.T
	b *build.Build
	m *model
}

func begin(t *testing.T, x api.Table, i api.Index, rows ...row) *both {
	t.Helper()
	b, e := build.New(x, i, rows)
	m, want := modelNew(x, i, rows)
	if e != want || e != api.OK || b == nil {
		t.Fatalf("New %s, %s, %s: %d, not %d", brief(x), brief(i), brief(rows), e, want)
	}
	y := &both{t, b, m}
	y.check("New")
	return y
}

func (y *both) check(what string) {
	y.t.Helper()
	if y.b.Open() != y.m.open {
		y.t.Fatalf("%s: Open is %t", what, !y.m.open)
	}
}

func (y *both) scan(most int) (int, api.Errno) {
	y.t.Helper()
	left, e := y.b.Scan(most)
	wantLeft, want := y.m.scan(most)
	if left != wantLeft || e != want {
		y.t.Fatalf("Scan %d: %d, %d, not %d, %d", most, left, e, wantLeft, want)
	}
	y.check("Scan")
	return left, e
}

func (y *both) write(w api.Write) api.Errno {
	y.t.Helper()
	e, want := y.b.Write(w), y.m.write(w)
	if e != want {
		y.t.Fatalf("Write %s: %d, not %d", brief(w), e, want)
	}
	y.check("Write")
	return e
}

func (y *both) writes(list ...api.Write) {
	y.t.Helper()
	for _, w := range list {
		is(y.t, "Write "+brief(w), y.write(w), api.OK)
	}
}

// finish holds what is finished against chapter 15's Index, too, if there are no more rows than a table may have.
func (y *both) finish() ([]row, api.Errno) {
	y.t.Helper()
	list, e := y.b.Finish()
	wantList, want := y.m.finish()
	if e != want || text(list) != text(wantList) || e != api.OK && len(list) != 0 {
		y.t.Fatalf("Finish: %s, %d, not %s, %d", brief(list), e, brief(wantList), want)
	}
	y.check("Finish")
	if want == api.ErrBuild || len(y.m.rows) > api.MaxItems {
		return list, e
	}
	told, code := tableIndex(y.t, y.m.schema, y.m.index, y.m.rows)
	if e != code || text(list) != text(told) {
		y.t.Fatalf("Finish: %s, %d, but Index tells %s, %d", brief(list), e, brief(told), code)
	}
	return list, e
}

func (y *both) abandon() api.Errno {
	y.t.Helper()
	e, want := y.b.Abandon(), y.m.abandon()
	if e != want {
		y.t.Fatalf("Abandon: %d, not %d", e, want)
	}
	y.check("Abandon")
	return e
}

// ends scans what is left and wants just these entries.
func (y *both) ends(what string, want ...row) {
	y.t.Helper()
	y.scan(math.MaxInt)
	list, e := y.finish()
	if e != api.OK || text(list) != text(want) {
		y.t.Errorf("%s: %s, %d, not %s", what, brief(list), e, brief(want))
	}
}

// clashes scans what is left and wants ErrUnique.
func (y *both) clashes(what string) {
	y.t.Helper()
	y.scan(math.MaxInt)
	if _, e := y.finish(); e != api.ErrUnique {
		y.t.Errorf("%s: %d, not ErrUnique", what, e)
	}
}

// text tells rows apart that are unlike in any field, -0 and +0 too.
func text(rows []row) string {
	var out strings.Builder
	for _, r := range rows {
		for _, v := range r {
			fmt.Fprintf(&out, "%d %d %x %x %q, ", v.Kind, v.N, math.Float64bits(real(v.C)), math.Float64bits(imag(v.C)), v.S)
		}
		out.WriteString("\n")
	}
	return out.String()
}

func brief(x any) string {
	s := strings.ToValidUTF8(fmt.Sprintf("%+v", x), "?")
	if len(s) > 400 {
		s = s[:400] + ".."
	}
	return s
}

func is[T comparable](t *testing.T, what string, got, want T) {
	t.Helper()
	if got != want {
		t.Errorf("%s: %v, not %v", what, got, want)
	}
}
