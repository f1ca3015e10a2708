package mess_test

import (
	"fmt"
	"math"
	"reflect"
	"slices"
	"strings"
	"testing"
	"unsafe"

	"hopper/api"
	"hopper/mess"
)

const longest = api.MaxFrame

// The bytes of messages by the chapter's words, put together by hand.

// num is a number: eight bytes, the lowest first.
func num(n int64) string {
	u := uint64(n)
	return string([]byte{byte(u), byte(u >> 8), byte(u >> 16), byte(u >> 24), byte(u >> 32), byte(u >> 40), byte(u >> 48), byte(u >> 56)})
}

func txt(s string) string { return num(int64(len(s))) + s }

// lst is a list, of members that are bytes already.
func lst(members ...string) string {
	return num(int64(len(members))) + strings.Join(members, "")
}

// A few rows, and their bytes behind chapter 4's words.
const (
	noRow   = "\x00"
	nullRow = "\x01\x00"
	fiveRow = "\x01\x02\x05\x00\x00\x00\x00\x00\x00\x00"
	abRow   = "\x02\x05\x02\x00ab\x01\x01"
)

func five() []api.Value { return []api.Value{{Kind: api.VInt, N: 5}} }

func ab() []api.Value {
	return []api.Value{{Kind: api.VText, S: "ab"}, {Kind: api.VBool, N: 1}}
}

// noOp is an operation without anything.
var noOp = num(0) + txt("") + txt(noRow) + txt(noRow) + txt(noRow) + txt("") + num(0) + num(0) + num(0)

func fullOp() api.Op {
	return api.Op{Kind: 7, Table: "stock", Key: five(), To: ab(), Row: []api.Value{{}}, Index: "by", At: -1, N: math.MinInt64, Limit: 258}
}

var fullOpBytes = num(7) + txt("stock") + txt(fiveRow) + txt(abRow) + txt(nullRow) + txt("by") + num(-1) + num(math.MinInt64) + num(258)

func fullTable() api.Table {
	return api.Table{
		Name:    "stock",
		Columns: []api.Column{{Name: "a", Kind: 2}, {Name: "", Kind: -3}},
		Key:     77,
		Indexes: []api.Index{{Name: "i", Columns: []int{1, 0, -9}, Unique: true}, {Name: "jj"}},
	}
}

var fullTableBytes = txt("stock") + lst(txt("a")+num(2), txt("")+num(-3)) + num(77) +
	lst(txt("i")+lst(num(1), num(0), num(-9))+"\x01", txt("jj")+lst()+"\x00")

type asking struct {
	x api.Request
	b string
}

// asks has requests of each kind, with all their fields and with none, and their bytes.
func asks() []asking {
	return []asking{
		{api.Request{Kind: api.MHello, Id: 1, Name: "ann"}, num(1) + num(1) + txt("ann")},
		{api.Request{Kind: api.MHello}, num(1) + num(0) + txt("")},
		{api.Request{Kind: api.MProof, Id: 2, Text: "\x00\xff\x80proof"}, num(2) + num(2) + txt("\x00\xff\x80proof")},
		{api.Request{Kind: api.MProof}, num(2) + num(0) + txt("")},
		{api.Request{Kind: api.MBatch, Id: 3, Ops: []api.Op{fullOp(), {}, fullOp()}}, num(3) + num(3) + lst(fullOpBytes, noOp, fullOpBytes)},
		{api.Request{Kind: api.MBatch}, num(3) + num(0) + lst()},
		{api.Request{Kind: api.MRead, Id: 4, Ops: []api.Op{{}, fullOp()}}, num(4) + num(4) + lst(noOp, fullOpBytes)},
		{api.Request{Kind: api.MRead, Ops: []api.Op{}}, num(4) + num(0) + lst()},
		{api.Request{Kind: api.MCreate, Id: 5, Table: fullTable()}, num(5) + num(5) + fullTableBytes},
		{api.Request{Kind: api.MCreate}, num(5) + num(0) + txt("") + lst() + num(0) + lst()},
		{api.Request{Kind: api.MDrop, Id: 6, Name: "stock"}, num(6) + num(6) + txt("stock")},
		{api.Request{Kind: api.MDrop}, num(6) + num(0) + txt("")},
		{api.Request{Kind: api.MCall, Id: 7, Name: "pay", Args: ab()}, num(7) + num(7) + txt("pay") + txt(abRow)},
		{api.Request{Kind: api.MCall}, num(7) + num(0) + txt("") + txt(noRow)},
		{api.Request{Kind: api.MBye, Id: 8}, num(8) + num(8)},
		{api.Request{Kind: api.MBye}, num(8) + num(0)},
	}
}

type telling struct {
	x api.Reply
	b string
}

func tells() []telling {
	full := []api.Result{{Code: 5, Rows: [][]api.Value{five(), nil, ab()}}, {}, {Code: -7, Rows: [][]api.Value{{{}}}}}
	fullBytes := lst(num(5)+lst(txt(fiveRow), txt(noRow), txt(abRow)), num(0)+lst(), num(-7)+lst(txt(nullRow)))
	var out []telling
	for kind := api.PChallenge; kind <= api.PBusy; kind++ {
		k := num(int64(kind))
		out = append(out,
			telling{api.Reply{Kind: kind}, k + num(0) + num(0) + num(0) + txt("") + lst()},
			telling{api.Reply{Kind: kind, Id: 3, Code: 270, Epoch: 9, Text: "\x00\xfft", Results: full}, k + num(3) + num(270) + num(9) + txt("\x00\xfft") + fullBytes})
	}
	return out
}

// plain makes lists without members nil, since nil and empty are the same (R3).
func plain(x api.Request) api.Request {
	x.Ops, x.Args = slices.Clone(x.Ops), orNil(x.Args)
	x.Table.Columns, x.Table.Indexes = slices.Clone(x.Table.Columns), slices.Clone(x.Table.Indexes)
	for i, o := range x.Ops {
		x.Ops[i].Key, x.Ops[i].To, x.Ops[i].Row = orNil(o.Key), orNil(o.To), orNil(o.Row)
	}
	for i, n := range x.Table.Indexes {
		if len(n.Columns) == 0 {
			x.Table.Indexes[i].Columns = nil
		}
	}
	if len(x.Ops) == 0 {
		x.Ops = nil
	}
	if len(x.Table.Columns) == 0 {
		x.Table.Columns = nil
	}
	if len(x.Table.Indexes) == 0 {
		x.Table.Indexes = nil
	}
	return x
}

func orNil(r []api.Value) []api.Value {
	if len(r) == 0 {
		return nil
	}
	return r
}

func plainReply(x api.Reply) api.Reply {
	x.Results = slices.Clone(x.Results)
	for i, r := range x.Results {
		x.Results[i].Rows = slices.Clone(r.Rows)
		for j := range r.Rows {
			x.Results[i].Rows[j] = orNil(r.Rows[j])
		}
		if len(r.Rows) == 0 {
			x.Results[i].Rows = nil
		}
	}
	if len(x.Results) == 0 {
		x.Results = nil
	}
	return x
}

// same tells whether two requests are, -0 being another number than +0.
func same(a, b api.Request) bool { return reflect.DeepEqual(bitsOf(a), bitsOf(b)) }

func sameReply(a, b api.Reply) bool { return reflect.DeepEqual(replyBitsOf(a), replyBitsOf(b)) }

// bits is a value whose floats are told apart by their bits.
type bits struct {
	kind   int
	n      int64
	re, im uint64
	s      string
}

func rowBits(r []api.Value) []bits {
	var out []bits
	for _, v := range r {
		out = append(out, bits{v.Kind, v.N, math.Float64bits(real(v.C)), math.Float64bits(imag(v.C)), v.S})
	}
	return out
}

func bitsOf(x api.Request) []any {
	x = plain(x)
	out := []any{x.Kind, x.Id, x.Name, x.Text, x.Table, rowBits(x.Args)}
	for _, o := range x.Ops {
		out = append(out, o.Kind, o.Table, rowBits(o.Key), rowBits(o.To), rowBits(o.Row), o.Index, o.At, o.N, o.Limit)
	}
	return out
}

func replyBitsOf(x api.Reply) []any {
	x = plainReply(x)
	out := []any{x.Kind, x.Id, x.Code, x.Epoch, x.Text}
	for _, r := range x.Results {
		out = append(out, r.Code, len(r.Rows))
		for _, row := range r.Rows {
			out = append(out, rowBits(row))
		}
	}
	return out
}

func isNoRequest(x api.Request) bool { return same(x, api.Request{}) }

func isNoReply(x api.Reply) bool { return sameReply(x, api.Reply{}) }

// brief is what of a message or of bytes is told beside a failure.
func brief(x any) string {
	s := fmt.Sprintf("%+v", x)
	if b, ok := x.(string); ok {
		s = fmt.Sprintf("%d bytes %x", len(b), b)
	}
	if len(s) > 300 {
		return s[:300] + ".."
	}
	return s
}

// asked fails unless x and b are one another's.
func asked(t *testing.T, x api.Request, b string) {
	t.Helper()
	if got, e := mess.Ask(x); got != b || e != api.OK {
		t.Errorf("ask %s: %s, %d; not %s", brief(x), brief(got), e, brief(b))
	}
	if got, e := mess.Asked(b); !same(got, x) || e != api.OK {
		t.Errorf("asked %s: %s, %d; not %s", brief(b), brief(got), e, brief(x))
	}
}

func told(t *testing.T, x api.Reply, b string) {
	t.Helper()
	if got, e := mess.Tell(x); got != b || e != api.OK {
		t.Errorf("tell %s: %s, %d; not %s", brief(x), brief(got), e, brief(b))
	}
	if got, e := mess.Told(b); !sameReply(got, x) || e != api.OK {
		t.Errorf("told %s: %s, %d; not %s", brief(b), brief(got), e, brief(x))
	}
}

// cantAsk fails unless Ask refuses x by that error, with nothing beside it.
func cantAsk(t *testing.T, x api.Request, e api.Errno) {
	t.Helper()
	if got, code := mess.Ask(x); got != "" || code != e {
		t.Errorf("ask %s: %s, %d; not %d", brief(x), brief(got), code, e)
	}
}

func cantTell(t *testing.T, x api.Reply, e api.Errno) {
	t.Helper()
	if got, code := mess.Tell(x); got != "" || code != e {
		t.Errorf("tell %s: %s, %d; not %d", brief(x), brief(got), code, e)
	}
}

func noneAsked(t *testing.T, b string, e api.Errno) {
	t.Helper()
	if got, code := mess.Asked(b); !isNoRequest(got) || code != e {
		t.Errorf("asked %s: %s, %d; not %d", brief(b), brief(got), code, e)
	}
}

func noneTold(t *testing.T, b string, e api.Errno) {
	t.Helper()
	if got, code := mess.Told(b); !isNoReply(got) || code != e {
		t.Errorf("told %s: %s, %d; not %d", brief(b), brief(got), code, e)
	}
}

// noMessage fails unless neither a request nor a reply is read of b.
func noMessage(t *testing.T, b string) {
	t.Helper()
	noneAsked(t, b, api.ErrMessage)
	noneTold(t, b, api.ErrMessage)
}

// 8.1 and 8.2: the bytes of requests and of replies.

func TestEachRequest(t *testing.T) {
	for _, a := range asks() {
		asked(t, a.x, a.b)
	}
}

func TestEachReply(t *testing.T) {
	for _, a := range tells() {
		told(t, a.x, a.b)
	}
}

func TestWrittenOut(t *testing.T) {
	asked(t, api.Request{Kind: api.MBye, Id: 5}, "\x08\x00\x00\x00\x00\x00\x00\x00\x05\x00\x00\x00\x00\x00\x00\x00")
	asked(t, api.Request{Kind: api.MHello, Id: 0x1234, Name: "ann"}, "\x01\x00\x00\x00\x00\x00\x00\x00\x34\x12\x00\x00\x00\x00\x00\x00\x03\x00\x00\x00\x00\x00\x00\x00ann")
	asked(t, api.Request{Kind: api.MCall, Id: 1 << 31, Name: "p", Args: []api.Value{{Kind: api.VBool, N: 1}}},
		"\x07\x00\x00\x00\x00\x00\x00\x00\x00\x00\x00\x80\x00\x00\x00\x00\x01\x00\x00\x00\x00\x00\x00\x00p\x03\x00\x00\x00\x00\x00\x00\x00\x01\x01\x01")
	asked(t, api.Request{Kind: api.MCreate, Table: api.Table{Key: -2, Indexes: []api.Index{{Unique: true}}}},
		"\x05\x00\x00\x00\x00\x00\x00\x00"+strings.Repeat("\x00", 8)+strings.Repeat("\x00", 8)+strings.Repeat("\x00", 8)+
			"\xfe\xff\xff\xff\xff\xff\xff\xff"+"\x01\x00\x00\x00\x00\x00\x00\x00"+strings.Repeat("\x00", 8)+strings.Repeat("\x00", 8)+"\x01")
	told(t, api.Reply{Kind: api.PError, Id: 2, Code: api.ErrMessage, Epoch: 256, Text: "t", Results: []api.Result{{Code: -1}}},
		"\x04\x00\x00\x00\x00\x00\x00\x00\x02\x00\x00\x00\x00\x00\x00\x00\x50\x00\x00\x00\x00\x00\x00\x00\x00\x01\x00\x00\x00\x00\x00\x00"+
			"\x01\x00\x00\x00\x00\x00\x00\x00t\x01\x00\x00\x00\x00\x00\x00\x00\xff\xff\xff\xff\xff\xff\xff\xff\x00\x00\x00\x00\x00\x00\x00\x00")
}

func TestChaptersExample(t *testing.T) {
	asked(t, api.Request{Kind: 8, Id: 5}, string([]byte{8, 0, 0, 0, 0, 0, 0, 0, 5, 0, 0, 0, 0, 0, 0, 0}))
	asked(t, api.Request{Kind: 1, Id: 9, Name: "ann"}, string([]byte{1, 0, 0, 0, 0, 0, 0, 0, 9, 0, 0, 0, 0, 0, 0, 0, 3, 0, 0, 0, 0, 0, 0, 0, 97, 110, 110}))
	cantAsk(t, api.Request{Kind: 8, Name: "x"}, 80)
}

// The order of fields: each field in turn has something, and the bytes stand where the chapter says.

func TestEachFieldOfAnOperation(t *testing.T) {
	head := num(3) + num(0) + num(1)
	fields := []string{num(0), txt(""), txt(noRow), txt(noRow), txt(noRow), txt(""), num(0), num(0), num(0)}
	with := func(i int, s string) string {
		f := slices.Clone(fields)
		f[i] = s
		return head + strings.Join(f, "")
	}
	for _, x := range []struct {
		op api.Op
		b  string
	}{
		{api.Op{Kind: 99}, with(0, num(99))},
		{api.Op{Table: "t"}, with(1, txt("t"))},
		{api.Op{Key: five()}, with(2, txt(fiveRow))},
		{api.Op{To: five()}, with(3, txt(fiveRow))},
		{api.Op{Row: five()}, with(4, txt(fiveRow))},
		{api.Op{Index: "t"}, with(5, txt("t"))},
		{api.Op{At: 99}, with(6, num(99))},
		{api.Op{N: 99}, with(7, num(99))},
		{api.Op{Limit: 99}, with(8, num(99))},
	} {
		asked(t, api.Request{Kind: api.MBatch, Ops: []api.Op{x.op}}, x.b)
	}
}

func TestEachFieldOfASchema(t *testing.T) {
	head := num(5) + num(0)
	for _, x := range []struct {
		t api.Table
		b string
	}{
		{api.Table{Name: "n"}, txt("n") + lst() + num(0) + lst()},
		{api.Table{Columns: []api.Column{{Name: "n"}}}, txt("") + lst(txt("n")+num(0)) + num(0) + lst()},
		{api.Table{Columns: []api.Column{{Kind: 6}}}, txt("") + lst(txt("")+num(6)) + num(0) + lst()},
		{api.Table{Key: 6}, txt("") + lst() + num(6) + lst()},
		{api.Table{Indexes: []api.Index{{Name: "n"}}}, txt("") + lst() + num(0) + lst(txt("n")+lst()+"\x00")},
		{api.Table{Indexes: []api.Index{{Columns: []int{6, 7}}}}, txt("") + lst() + num(0) + lst(txt("")+lst(num(6), num(7))+"\x00")},
		{api.Table{Indexes: []api.Index{{Unique: true}}}, txt("") + lst() + num(0) + lst(txt("")+lst()+"\x01")},
	} {
		asked(t, api.Request{Kind: api.MCreate, Table: x.t}, head+x.b)
	}
}

func TestEachFieldOfAReply(t *testing.T) {
	for _, x := range []struct {
		r api.Reply
		b string
	}{
		{api.Reply{Kind: 3, Id: 6}, num(3) + num(6) + num(0) + num(0) + txt("") + lst()},
		{api.Reply{Kind: 3, Code: 6}, num(3) + num(0) + num(6) + num(0) + txt("") + lst()},
		{api.Reply{Kind: 3, Epoch: 6}, num(3) + num(0) + num(0) + num(6) + txt("") + lst()},
		{api.Reply{Kind: 3, Text: "t"}, num(3) + num(0) + num(0) + num(0) + txt("t") + lst()},
		{api.Reply{Kind: 3, Results: []api.Result{{Code: 6}}}, num(3) + num(0) + num(0) + num(0) + txt("") + lst(num(6)+lst())},
		{api.Reply{Kind: 3, Results: []api.Result{{Rows: [][]api.Value{five()}}}}, num(3) + num(0) + num(0) + num(0) + txt("") + lst(num(0)+lst(txt(fiveRow)))},
		{api.Reply{Kind: 3, Results: []api.Result{{Rows: [][]api.Value{nil}}}}, num(3) + num(0) + num(0) + num(0) + txt("") + lst(num(0)+lst(txt(noRow)))},
	} {
		told(t, x.r, x.b)
	}
}

// Where any number may be, the least and the greatest one may.

func TestAnyNumbers(t *testing.T) {
	for _, n := range []int{math.MinInt64, math.MinInt64 + 1, -1 << 32, -256, -1, 0, 1, 127, 128, 255, 256, 1 << 31, 1<<31 + 1, 1 << 32, 0x0102030405060708, math.MaxInt64 - 1, math.MaxInt64} {
		b := num(int64(n))
		asked(t, api.Request{Kind: api.MRead, Ops: []api.Op{{Kind: n, At: n, N: int64(n), Limit: n}}},
			num(4)+num(0)+num(1)+b+txt("")+txt(noRow)+txt(noRow)+txt(noRow)+txt("")+b+b+b)
		asked(t, api.Request{Kind: api.MCreate, Table: api.Table{Columns: []api.Column{{Kind: n}}, Key: n, Indexes: []api.Index{{Columns: []int{n, n}}}}},
			num(5)+num(0)+txt("")+lst(txt("")+b)+b+lst(txt("")+lst(b, b)+"\x00"))
		told(t, api.Reply{Kind: api.PDone, Code: api.Errno(n), Results: []api.Result{{Code: api.Errno(n)}}},
			num(3)+num(0)+b+num(0)+txt("")+lst(b+lst()))
	}
}

// Texts may be any bytes, of any length that fits; rows may have any values that may be.

func TestAnyTexts(t *testing.T) {
	for _, s := range []string{"", "\x00", "\xff\xfe", "a\x00b", "h\u00f6pper", num(5), strings.Repeat("q", 255), strings.Repeat("q", 256), strings.Repeat("q", api.MaxText+1), strings.Repeat("q", 1<<14)} {
		asked(t, api.Request{Kind: api.MHello, Name: s}, num(1)+num(0)+txt(s))
		asked(t, api.Request{Kind: api.MProof, Text: s}, num(2)+num(0)+txt(s))
		asked(t, api.Request{Kind: api.MDrop, Name: s}, num(6)+num(0)+txt(s))
		asked(t, api.Request{Kind: api.MCall, Name: s}, num(7)+num(0)+txt(s)+txt(noRow))
		asked(t, api.Request{Kind: api.MCreate, Table: api.Table{Name: s, Columns: []api.Column{{Name: s}}, Indexes: []api.Index{{Name: s}}}},
			num(5)+num(0)+txt(s)+lst(txt(s)+num(0))+num(0)+lst(txt(s)+lst()+"\x00"))
		told(t, api.Reply{Kind: api.PWelcome, Text: s}, num(2)+num(0)+num(0)+num(0)+txt(s)+lst())
	}
}

func TestAnyRows(t *testing.T) {
	longText := strings.Repeat("z", api.MaxText)
	for _, x := range []struct {
		r []api.Value
		b string
	}{
		{nil, noRow},
		{[]api.Value{}, noRow},
		{[]api.Value{{}}, nullRow},
		{[]api.Value{{Kind: api.VBool}, {Kind: api.VBool, N: 1}}, "\x02\x01\x00\x01\x01"},
		{[]api.Value{{Kind: api.VInt, N: math.MinInt64}}, "\x01\x02" + num(math.MinInt64)},
		{[]api.Value{{Kind: api.VInt, N: math.MaxInt64}}, "\x01\x02" + num(math.MaxInt64)},
		{[]api.Value{{Kind: api.VFloat, C: 1.5}}, "\x01\x03" + num(int64(math.Float64bits(1.5)))},
		{[]api.Value{{Kind: api.VFloat, C: complex(math.Copysign(0, -1), 0)}}, "\x01\x03" + num(math.MinInt64)},
		{[]api.Value{{Kind: api.VPair, C: complex(math.Inf(1), math.Inf(-1))}}, "\x01\x04" + num(0x7ff<<52) + num(-1<<52)},
		{[]api.Value{{Kind: api.VText, S: ""}}, "\x01\x05\x00\x00"},
		{[]api.Value{{Kind: api.VText, S: longText}}, "\x01\x05\x00\x10" + longText},
		{make([]api.Value, api.MaxRow), "\x20" + strings.Repeat("\x00", api.MaxRow)},
	} {
		asked(t, api.Request{Kind: api.MCall, Args: x.r}, num(7)+num(0)+txt("")+txt(x.b))
		asked(t, api.Request{Kind: api.MBatch, Ops: []api.Op{{Key: x.r, To: x.r, Row: x.r}}},
			num(3)+num(0)+lst(num(0)+txt("")+txt(x.b)+txt(x.b)+txt(x.b)+txt("")+num(0)+num(0)+num(0)))
		told(t, api.Reply{Kind: api.PDone, Results: []api.Result{{Rows: [][]api.Value{x.r, x.r}}}},
			num(3)+num(0)+num(0)+num(0)+txt("")+lst(num(0)+lst(txt(x.b), txt(x.b))))
	}
}

// Lists that are nil and lists that are empty are the same.

func TestEmptyListsAreNoLists(t *testing.T) {
	none := []api.Value{}
	asked(t, api.Request{Kind: api.MBye, Ops: []api.Op{}, Args: none, Table: api.Table{Columns: []api.Column{}, Indexes: []api.Index{}}}, num(8)+num(0))
	asked(t, api.Request{Kind: api.MHello, Ops: make([]api.Op, 0, 4), Args: make([]api.Value, 0, 4)}, num(1)+num(0)+txt(""))
	asked(t, api.Request{Kind: api.MBatch, Ops: []api.Op{}}, num(3)+num(0)+lst())
	asked(t, api.Request{Kind: api.MBatch, Ops: []api.Op{{Key: none, To: none, Row: none}}}, num(3)+num(0)+lst(noOp))
	asked(t, api.Request{Kind: api.MCall, Args: none}, num(7)+num(0)+txt("")+txt(noRow))
	asked(t, api.Request{Kind: api.MCreate, Table: api.Table{Columns: []api.Column{}, Indexes: []api.Index{{Columns: []int{}}}}},
		num(5)+num(0)+txt("")+lst()+num(0)+lst(txt("")+lst()+"\x00"))
	told(t, api.Reply{Kind: api.PDone, Results: []api.Result{}}, num(3)+num(0)+num(0)+num(0)+txt("")+lst())
	told(t, api.Reply{Kind: api.PDone, Results: []api.Result{{Rows: [][]api.Value{}}, {Rows: [][]api.Value{none}}}},
		num(3)+num(0)+num(0)+num(0)+txt("")+lst(num(0)+lst(), num(0)+lst(txt(noRow))))
}

// Which messages may be: the kind.

func TestKinds(t *testing.T) {
	for _, kind := range []int{math.MinInt64, -8, -1, 0, 9, 10, 256 + api.MBye, 1<<32 + api.MBye, math.MaxInt64} {
		cantAsk(t, api.Request{Kind: kind}, api.ErrMessage)
		cantAsk(t, api.Request{Kind: kind, Id: 4, Name: "n"}, api.ErrMessage)
		for _, rest := range []string{"", txt(""), txt("n"), lst(), lst(noOp), fullTableBytes, txt("n") + txt(noRow)} {
			noneAsked(t, num(int64(kind))+num(0)+rest, api.ErrMessage)
		}
	}
	for _, kind := range []int{math.MinInt64, -5, -1, 0, 6, 7, 256 + api.PBusy, 1<<32 + api.PBusy, math.MaxInt64} {
		cantTell(t, api.Reply{Kind: kind}, api.ErrMessage)
		noneTold(t, num(int64(kind))+num(0)+num(0)+num(0)+txt("")+lst(), api.ErrMessage)
	}
}

// The Id and the Epoch.

func TestIds(t *testing.T) {
	for _, a := range asks() {
		for _, id := range []int{0, 1, api.MaxEpoch - 1, api.MaxEpoch} {
			a.x.Id = id
			asked(t, a.x, a.b[:8]+num(int64(id))+a.b[16:])
		}
		for _, id := range []int{-1, api.MaxEpoch + 1, math.MinInt64, math.MaxInt64, 1 << 32} {
			a.x.Id = id
			cantAsk(t, a.x, api.ErrMessage)
			noneAsked(t, a.b[:8]+num(int64(id))+a.b[16:], api.ErrMessage)
		}
	}
}

func TestIdsAndEpochsOfReplies(t *testing.T) {
	for _, a := range tells() {
		for _, n := range []int{0, 1, api.MaxEpoch - 1, api.MaxEpoch} {
			id, epoch := a.x, a.x
			id.Id, epoch.Epoch = n, n
			told(t, id, a.b[:8]+num(int64(n))+a.b[16:])
			told(t, epoch, a.b[:24]+num(int64(n))+a.b[32:])
		}
		for _, n := range []int{-1, api.MaxEpoch + 1, math.MinInt64, math.MaxInt64, 1 << 32} {
			id, epoch := a.x, a.x
			id.Id, epoch.Epoch = n, n
			cantTell(t, id, api.ErrMessage)
			noneTold(t, a.b[:8]+num(int64(n))+a.b[16:], api.ErrMessage)
			cantTell(t, epoch, api.ErrMessage)
			noneTold(t, a.b[:24]+num(int64(n))+a.b[32:], api.ErrMessage)
		}
	}
}

// The fields that are not of a request's kind, one by one.

// field has a name and what gives a request something there.
type field struct {
	name string
	set  func(x *api.Request)
}

func fields() []field {
	return []field{
		{"Name", func(x *api.Request) { x.Name = "n" }},
		{"Name", func(x *api.Request) { x.Name = "\x00" }},
		{"Text", func(x *api.Request) { x.Text = "t" }},
		{"Text", func(x *api.Request) { x.Text = "\x00" }},
		{"Table", func(x *api.Request) { x.Table.Name = "n" }},
		{"Table", func(x *api.Request) { x.Table.Name = "\x00" }},
		{"Table", func(x *api.Request) { x.Table.Columns = []api.Column{{}} }},
		{"Table", func(x *api.Request) { x.Table.Key = 1 }},
		{"Table", func(x *api.Request) { x.Table.Key = -1 }},
		{"Table", func(x *api.Request) { x.Table.Key = 1 << 32 }},
		{"Table", func(x *api.Request) { x.Table.Indexes = []api.Index{{}} }},
		{"Table", func(x *api.Request) { x.Table = fullTable() }},
		{"Ops", func(x *api.Request) { x.Ops = []api.Op{{}} }},
		{"Ops", func(x *api.Request) { x.Ops = []api.Op{fullOp()} }},
		{"Args", func(x *api.Request) { x.Args = []api.Value{{}} }},
		{"Args", func(x *api.Request) { x.Args = five() }},
	}
}

// own says which fields a kind has.
func own(kind int) []string {
	return map[int][]string{
		1: {"Name"}, 2: {"Text"}, 3: {"Ops"}, 4: {"Ops"}, 5: {"Table"}, 6: {"Name"}, 7: {"Name", "Args"}, 8: {},
	}[kind]
}

func TestFieldsOfOtherKinds(t *testing.T) {
	for _, a := range asks() {
		for i, f := range fields() {
			x := a.x
			f.set(&x)
			got, e := mess.Ask(x)
			if slices.Contains(own(x.Kind), f.name) {
				if e != api.OK || got == "" {
					t.Errorf("kind %d with field %d (%s), its own: %x %d", x.Kind, i, f.name, got, e)
				}
				continue
			}
			if got != "" || e != api.ErrMessage {
				t.Errorf("kind %d with field %d (%s), of others: %x %d", x.Kind, i, f.name, got, e)
			}
		}
	}
}

func TestFieldsOfOtherKindsAreNotRead(t *testing.T) {
	for _, a := range asks() {
		for _, rest := range []string{"\x00", num(0), txt("n"), lst(noOp), fullTableBytes, txt(noRow), txt(fiveRow)} {
			noneAsked(t, a.b+rest, api.ErrMessage)
		}
	}
}

// Lists of just api.MaxItems members and of one more.

func TestMostOps(t *testing.T) {
	for _, kind := range []int{api.MBatch, api.MRead} {
		cantAsk(t, api.Request{Kind: kind, Ops: make([]api.Op, api.MaxItems)}, api.ErrLong)
		cantAsk(t, api.Request{Kind: kind, Ops: make([]api.Op, api.MaxItems+1)}, api.ErrMessage)
		cantAsk(t, api.Request{Kind: kind, Ops: make([]api.Op, 1<<16)}, api.ErrMessage)
	}
}

func TestMostColumns(t *testing.T) {
	cantAsk(t, api.Request{Kind: api.MCreate, Table: api.Table{Columns: make([]api.Column, api.MaxItems)}}, api.ErrLong)
	cantAsk(t, api.Request{Kind: api.MCreate, Table: api.Table{Columns: make([]api.Column, api.MaxItems+1)}}, api.ErrMessage)
	many := (longest - 16 - 8 - 8 - 8 - 8) / 16
	column := txt("") + num(0)
	asked(t, api.Request{Kind: api.MCreate, Table: api.Table{Columns: make([]api.Column, many)}},
		num(5)+num(0)+txt("")+num(int64(many))+strings.Repeat(column, many)+num(0)+lst())
}

func TestMostIndexes(t *testing.T) {
	cantAsk(t, api.Request{Kind: api.MCreate, Table: api.Table{Indexes: make([]api.Index, api.MaxItems)}}, api.ErrLong)
	cantAsk(t, api.Request{Kind: api.MCreate, Table: api.Table{Indexes: make([]api.Index, api.MaxItems+1)}}, api.ErrMessage)
	many := (longest - 16 - 8 - 8 - 8 - 8) / 17
	index := txt("") + lst() + "\x00"
	asked(t, api.Request{Kind: api.MCreate, Table: api.Table{Indexes: make([]api.Index, many)}},
		num(5)+num(0)+txt("")+lst()+num(0)+num(int64(many))+strings.Repeat(index, many))
}

func TestMostColumnsOfAnIndex(t *testing.T) {
	of := func(n int) api.Request {
		return api.Request{Kind: api.MCreate, Table: api.Table{Indexes: []api.Index{{}, {Columns: make([]int, n)}}}}
	}
	bytesOf := func(n int) string {
		return num(5) + num(0) + txt("") + lst() + num(0) + lst(txt("")+lst()+"\x00", txt("")+num(int64(n))+strings.Repeat(num(0), n)+"\x00")
	}
	asked(t, of(api.MaxItems-1), bytesOf(api.MaxItems-1))
	asked(t, of(api.MaxItems), bytesOf(api.MaxItems))
	cantAsk(t, of(api.MaxItems+1), api.ErrMessage)
	noneAsked(t, bytesOf(api.MaxItems+1), api.ErrMessage)
}

func TestMostResults(t *testing.T) {
	cantTell(t, api.Reply{Kind: api.PDone, Results: make([]api.Result, api.MaxItems)}, api.ErrLong)
	cantTell(t, api.Reply{Kind: api.PDone, Results: make([]api.Result, api.MaxItems+1)}, api.ErrMessage)
	many := (longest - 48) / 16
	told(t, api.Reply{Kind: api.PDone, Results: make([]api.Result, many)},
		num(3)+num(0)+num(0)+num(0)+txt("")+num(int64(many))+strings.Repeat(num(0)+lst(), many))
}

func TestMostRows(t *testing.T) {
	of := func(n int) api.Reply {
		return api.Reply{Kind: api.PDone, Results: []api.Result{{}, {Rows: make([][]api.Value, n)}}}
	}
	bytesOf := func(n int) string {
		return num(3) + num(0) + num(0) + num(0) + txt("") + lst(num(0)+lst(), num(0)+num(int64(n))+strings.Repeat(txt(noRow), n))
	}
	told(t, of(api.MaxItems-1), bytesOf(api.MaxItems-1))
	told(t, of(api.MaxItems), bytesOf(api.MaxItems))
	cantTell(t, of(api.MaxItems+1), api.ErrMessage)
	noneTold(t, bytesOf(api.MaxItems+1), api.ErrMessage)
}

// Rows that may not be, wherever a row stands.

func badRows() [][]api.Value {
	return [][]api.Value{
		{{Kind: -1}}, {{Kind: 6}}, {{Kind: 9}}, {{N: 1}}, {{S: "s"}}, {{C: 1}},
		{{Kind: api.VBool, N: 2}}, {{Kind: api.VInt, S: "s"}},
		{{Kind: api.VFloat, C: 1i}}, {{Kind: api.VFloat, C: complex(0, math.Copysign(0, -1))}}, {{Kind: api.VFloat, C: complex(math.NaN(), 0)}},
		{{Kind: api.VPair, C: complex(0, math.NaN())}},
		{{Kind: api.VText, S: strings.Repeat("q", api.MaxText+1)}},
		{{}, {Kind: api.VInt, N: 5}, {Kind: 9}},
		make([]api.Value, api.MaxRow+1),
	}
}

func TestBadRowsAreNotWritten(t *testing.T) {
	for _, bad := range badRows() {
		cantAsk(t, api.Request{Kind: api.MCall, Name: "pay", Args: bad}, api.ErrMessage)
		for _, op := range []api.Op{{Key: bad}, {To: bad}, {Row: bad}} {
			for _, kind := range []int{api.MBatch, api.MRead} {
				cantAsk(t, api.Request{Kind: kind, Ops: []api.Op{op}}, api.ErrMessage)
				cantAsk(t, api.Request{Kind: kind, Ops: []api.Op{fullOp(), {}, op, {}}}, api.ErrMessage)
			}
		}
		cantTell(t, api.Reply{Kind: api.PDone, Results: []api.Result{{Rows: [][]api.Value{bad}}}}, api.ErrMessage)
		cantTell(t, api.Reply{Kind: api.PDone, Results: []api.Result{{}, {Rows: [][]api.Value{nil, five(), bad, nil}}, {}}}, api.ErrMessage)
	}
}

// noRows has bytes that are no row's.
func noRows() []string {
	return []string{
		"", "\x01", "\x00\x00", "\x01\x00\x00", "\x02\x00", "\x01\x06", "\x01\xff", "\x01\x01", "\x01\x01\x02",
		fiveRow[:9], fiveRow + "\x00", "\x01\x03" + num(int64(math.Float64bits(math.NaN()))),
		"\x01\x04" + num(0) + num(-1), "\x01\x05\x02\x00a", "\x01\x05\x01\x10" + strings.Repeat("q", api.MaxText+1),
		"\x21" + strings.Repeat("\x00", api.MaxRow+1), "\xff",
	}
}

func TestBadRowsAreNotRead(t *testing.T) {
	for _, bad := range noRows() {
		noneAsked(t, num(7)+num(0)+txt("")+txt(bad), api.ErrMessage)
		for i := range 3 {
			rows := []string{txt(noRow), txt(noRow), txt(noRow)}
			rows[i] = txt(bad)
			op := num(0) + txt("") + strings.Join(rows, "") + txt("") + num(0) + num(0) + num(0)
			noneAsked(t, num(3)+num(0)+lst(op), api.ErrMessage)
			noneAsked(t, num(4)+num(0)+lst(noOp, op, noOp), api.ErrMessage)
		}
		head := num(3) + num(0) + num(0) + num(0) + txt("")
		noneTold(t, head+lst(num(0)+lst(txt(bad))), api.ErrMessage)
		noneTold(t, head+lst(num(0)+lst(txt(noRow), txt(bad), txt(noRow)), num(0)+lst()), api.ErrMessage)
	}
}

// Bytes of just api.MaxFrame and of one more.

func TestLongestRequests(t *testing.T) {
	for _, x := range []struct {
		of   func(s string) api.Request
		b    func(s string) string
		head int // bytes beside the text's own
	}{
		{func(s string) api.Request { return api.Request{Kind: api.MHello, Name: s} }, func(s string) string { return num(1) + num(0) + txt(s) }, 24},
		{func(s string) api.Request { return api.Request{Kind: api.MProof, Text: s} }, func(s string) string { return num(2) + num(0) + txt(s) }, 24},
		{func(s string) api.Request { return api.Request{Kind: api.MCall, Name: s} }, func(s string) string { return num(7) + num(0) + txt(s) + txt(noRow) }, 33},
		{func(s string) api.Request {
			return api.Request{Kind: api.MBatch, Ops: []api.Op{{Index: s}}}
		}, func(s string) string {
			return num(3) + num(0) + lst(num(0)+txt("")+txt(noRow)+txt(noRow)+txt(noRow)+txt(s)+num(0)+num(0)+num(0))
		}, 24 + len(noOp)},
		{func(s string) api.Request {
			return api.Request{Kind: api.MCreate, Table: api.Table{Indexes: []api.Index{{Name: s, Unique: true}}}}
		}, func(s string) string {
			return num(5) + num(0) + txt("") + lst() + num(0) + lst(txt(s)+lst()+"\x01")
		}, 65},
	} {
		for _, n := range []int{longest - 1, longest} {
			s := strings.Repeat("q", n-x.head)
			if len(x.b(s)) != n {
				t.Fatalf("%d bytes, not %d", len(x.b(s)), n)
			}
			asked(t, x.of(s), x.b(s))
		}
		for _, n := range []int{longest + 1, longest + 7, longest + 8, longest + x.head, 2 * longest, api.MaxBytes + 1} {
			s := strings.Repeat("q", n-x.head)
			cantAsk(t, x.of(s), api.ErrLong)
			noneAsked(t, x.b(s), api.ErrLong)
		}
	}
}

func TestLongestReplies(t *testing.T) {
	const beside = 64 // bytes beside the text's own
	of := func(n int) api.Reply {
		return api.Reply{Kind: api.PDone, Text: strings.Repeat("q", n-beside), Results: []api.Result{{Code: 9}}}
	}
	bytesOf := func(n int) string {
		return num(3) + num(0) + num(0) + num(0) + txt(strings.Repeat("q", n-beside)) + lst(num(9)+lst())
	}
	for _, n := range []int{longest - 1, longest} {
		if len(bytesOf(n)) != n {
			t.Fatalf("%d bytes, not %d", len(bytesOf(n)), n)
		}
		told(t, of(n), bytesOf(n))
	}
	for _, n := range []int{longest + 1, longest + 8, longest + 9, longest + beside, 2 * longest} {
		cantTell(t, of(n), api.ErrLong)
		noneTold(t, bytesOf(n), api.ErrLong)
	}
}

// A row, a number, or a flag may be what is too long.

func TestEachFieldMayBeTooMuch(t *testing.T) {
	for more := range 80 {
		s := strings.Repeat("q", longest-24-40+more)
		op := api.Request{Kind: api.MBatch, Ops: []api.Op{{Table: s, Row: five()}}}
		want := num(3) + num(0) + lst(num(0)+txt(s)+txt(noRow)+txt(noRow)+txt(fiveRow)+txt("")+num(0)+num(0)+num(0))
		call := api.Request{Kind: api.MCall, Name: s, Args: ab()}
		wantCall := num(7) + num(0) + txt(s) + txt(abRow)
		for _, a := range []asking{{op, want}, {call, wantCall}} {
			if len(a.b) > longest {
				cantAsk(t, a.x, api.ErrLong)
				noneAsked(t, a.b, api.ErrLong)
			} else {
				asked(t, a.x, a.b)
			}
		}
	}
}

func TestManyMembersAreTooMuch(t *testing.T) {
	for n := 3630; n <= 3650; n++ {
		x := api.Reply{Kind: api.PDone, Results: []api.Result{{Rows: make([][]api.Value, api.MaxItems)}, {Rows: make([][]api.Value, n)}}}
		b := num(3) + num(0) + num(0) + num(0) + txt("") + lst(num(0)+num(api.MaxItems)+strings.Repeat(txt(noRow), api.MaxItems), num(0)+num(int64(n))+strings.Repeat(txt(noRow), n))
		if len(b) > longest {
			cantTell(t, x, api.ErrLong)
			noneTold(t, b, api.ErrLong)
		} else {
			told(t, x, b)
		}
	}
}

// R1: a message that may not be and is too long as well may not be; bytes that are too long and no message's are too long.

func TestMayNotBeGoesAheadOfTooLong(t *testing.T) {
	s := strings.Repeat("q", longest+1)
	bad := []api.Value{{Kind: 9}}
	for _, x := range []api.Request{
		{Kind: 0, Name: s}, {Kind: 9, Name: s}, {Kind: api.MHello, Id: -1, Name: s}, {Kind: api.MHello, Id: api.MaxEpoch + 1, Name: s},
		{Kind: api.MHello, Text: s}, {Kind: api.MHello, Name: s, Text: "t"}, {Kind: api.MProof, Text: s, Name: "n"},
		{Kind: api.MBye, Name: s}, {Kind: api.MDrop, Name: s, Table: api.Table{Key: 1}},
		{Kind: api.MCall, Name: s, Args: bad}, {Kind: api.MCall, Name: s, Args: make([]api.Value, api.MaxRow+1)},
		{Kind: api.MBatch, Ops: []api.Op{{Table: s, Key: bad}}}, {Kind: api.MBatch, Ops: []api.Op{{Table: s, To: bad}}},
		{Kind: api.MBatch, Ops: []api.Op{{Table: s}, {Row: bad}}}, {Kind: api.MRead, Ops: []api.Op{{Key: bad, Index: s}}},
		{Kind: api.MBatch, Ops: append(make([]api.Op, api.MaxItems-1), api.Op{Row: bad})},
		{Kind: api.MBatch, Ops: append(make([]api.Op, api.MaxItems), api.Op{Table: s})},
		{Kind: api.MCreate, Table: api.Table{Name: s, Columns: make([]api.Column, api.MaxItems+1)}},
		{Kind: api.MCreate, Table: api.Table{Name: s, Indexes: make([]api.Index, api.MaxItems+1)}},
		{Kind: api.MCreate, Table: api.Table{Name: s, Indexes: []api.Index{{}, {Columns: make([]int, api.MaxItems+1)}}}},
		{Kind: api.MCreate, Table: api.Table{Columns: make([]api.Column, api.MaxItems), Indexes: []api.Index{{Columns: make([]int, api.MaxItems+1)}}}},
		{Kind: api.MCreate, Table: fullTable(), Text: s},
	} {
		cantAsk(t, x, api.ErrMessage)
	}
	for _, x := range []api.Reply{
		{Kind: 0, Text: s}, {Kind: 6, Text: s}, {Kind: 3, Id: -1, Text: s}, {Kind: 3, Epoch: -1, Text: s}, {Kind: 3, Epoch: api.MaxEpoch + 1, Text: s},
		{Kind: 3, Text: s, Results: make([]api.Result, api.MaxItems+1)},
		{Kind: 3, Text: s, Results: []api.Result{{Rows: make([][]api.Value, api.MaxItems+1)}}},
		{Kind: 3, Text: s, Results: []api.Result{{}, {Rows: [][]api.Value{nil, bad}}}},
		{Kind: 3, Results: append(make([]api.Result, api.MaxItems-1), api.Result{Rows: [][]api.Value{bad}})},
	} {
		cantTell(t, x, api.ErrMessage)
	}
}

func TestTooLongGoesAheadOfNoMessage(t *testing.T) {
	for _, b := range []string{
		strings.Repeat("\x00", longest+1), strings.Repeat("\xff", longest+1), strings.Repeat("q", api.MaxBytes+1), strings.Repeat("q", 1<<20),
		num(8) + num(5) + strings.Repeat("\x00", longest-15), num(1) + num(-1) + txt(strings.Repeat("q", longest)),
	} {
		noneAsked(t, b, api.ErrLong)
		noneTold(t, b, api.ErrLong)
	}
	noMessage(t, strings.Repeat("\x00", longest))
	noMessage(t, strings.Repeat("\xff", longest))
}

// Bytes that are no message's.

func TestBytesThatEndEarly(t *testing.T) {
	for _, a := range asks() {
		for n := range len(a.b) {
			noneAsked(t, a.b[:n], api.ErrMessage)
		}
	}
	for _, a := range tells() {
		for n := range len(a.b) {
			noneTold(t, a.b[:n], api.ErrMessage)
		}
	}
}

func TestBytesBehindTheEnd(t *testing.T) {
	for _, more := range []string{"\x00", "\x01", "\xff", "q", num(0), num(8) + num(0)} {
		for _, a := range asks() {
			noneAsked(t, a.b+more, api.ErrMessage)
		}
		for _, a := range tells() {
			noneTold(t, a.b+more, api.ErrMessage)
		}
	}
}

func TestFlags(t *testing.T) {
	for c := range 256 {
		b := num(5) + num(0) + txt("") + lst() + num(0) + lst(txt("a")+lst()+string([]byte{byte(c)}), txt("b")+lst()+"\x01")
		if c < 2 {
			asked(t, api.Request{Kind: api.MCreate, Table: api.Table{Indexes: []api.Index{{Name: "a", Unique: c == 1}, {Name: "b", Unique: true}}}}, b)
			continue
		}
		noneAsked(t, b, api.ErrMessage)
	}
}

// wrongCounts has numbers of bytes, or of members, that are not what stands there.
func wrongCounts(n int) []int64 {
	return []int64{-1, -2, -8, -256, math.MinInt64, math.MinInt64 + 1, int64(n) + 1, int64(n) + 2, int64(n) + 1000, longest, longest + 1,
		api.MaxItems, api.MaxItems + 1, 1 << 31, 1<<32 + int64(n), 1<<56 + int64(n), math.MaxInt64 - 8, math.MaxInt64}
}

func TestCountsOfTexts(t *testing.T) {
	for _, n := range wrongCounts(3) {
		c := num(n)
		noneAsked(t, num(1)+num(0)+c+"ann", api.ErrMessage)
		noneAsked(t, num(2)+num(0)+c+"ann", api.ErrMessage)
		noneAsked(t, num(6)+num(0)+c+"ann", api.ErrMessage)
		noneAsked(t, num(7)+num(0)+c+"ann"+txt(noRow), api.ErrMessage)
		noneAsked(t, num(5)+num(0)+c+"ann"+lst()+num(0)+lst(), api.ErrMessage)
		noneAsked(t, num(5)+num(0)+txt("")+lst(c+"ann"+num(0))+num(0)+lst(), api.ErrMessage)
		noneAsked(t, num(5)+num(0)+txt("")+lst()+num(0)+lst(c+"ann"+lst()+"\x00"), api.ErrMessage)
		noneTold(t, num(3)+num(0)+num(0)+num(0)+c+"ann"+lst(), api.ErrMessage)
	}
	for _, n := range wrongCounts(len(abRow)) {
		c := num(n) + abRow
		noneAsked(t, num(7)+num(0)+txt("")+c, api.ErrMessage)
		noneAsked(t, num(3)+num(0)+lst(num(0)+txt("")+c+txt(noRow)+txt(noRow)+txt("")+num(0)+num(0)+num(0)), api.ErrMessage)
		noneAsked(t, num(3)+num(0)+lst(num(0)+txt("")+txt(noRow)+txt(noRow)+c+txt("")+num(0)+num(0)+num(0)), api.ErrMessage)
		noneTold(t, num(3)+num(0)+num(0)+num(0)+txt("")+lst(num(0)+lst(c)), api.ErrMessage)
	}
	// Fewer than stand there leave bytes behind.
	for n := range int64(3) {
		noneAsked(t, num(1)+num(0)+num(n)+"ann", api.ErrMessage)
	}
}

func TestCountsOfLists(t *testing.T) {
	for _, n := range append(wrongCounts(2), 0, 1) {
		c := num(n)
		noneAsked(t, num(3)+num(0)+c+noOp+noOp, api.ErrMessage)
		noneAsked(t, num(4)+num(0)+c+fullOpBytes+noOp, api.ErrMessage)
		noneAsked(t, num(5)+num(0)+txt("")+c+txt("a")+num(1)+txt("b")+num(2)+num(0)+lst(), api.ErrMessage)
		noneAsked(t, num(5)+num(0)+txt("")+lst()+num(0)+c+txt("a")+lst()+"\x00"+txt("b")+lst()+"\x01", api.ErrMessage)
		noneAsked(t, num(5)+num(0)+txt("")+lst()+num(0)+lst(txt("a")+c+num(7)+num(8)+"\x01"), api.ErrMessage)
		noneTold(t, num(3)+num(0)+num(0)+num(0)+txt("")+c+num(5)+lst()+num(6)+lst(), api.ErrMessage)
		noneTold(t, num(3)+num(0)+num(0)+num(0)+txt("")+lst(num(5)+c+txt(noRow)+txt(fiveRow)), api.ErrMessage)
	}
}

func TestBytesOfNothing(t *testing.T) {
	for _, b := range []string{"", "\x00", "abc", "\x08", num(8), num(0), num(0) + num(0), strings.Repeat("\x00", 48), strings.Repeat("\xff", 48)} {
		noMessage(t, b)
	}
}

// Bytes may be those of a request and those of a reply: each call reads its own.

func TestRequestsAndRepliesByTheirOwnForms(t *testing.T) {
	both := num(5) + num(0) + num(0) + num(0) + num(0) + num(0)
	asked(t, api.Request{Kind: api.MCreate}, both)
	told(t, api.Reply{Kind: api.PBusy}, both)
	noneTold(t, num(1)+num(0)+txt("ann"), api.ErrMessage)
	noneTold(t, num(3)+num(0)+lst(noOp), api.ErrMessage)
	noneAsked(t, num(3)+num(0)+num(0)+num(0)+txt("")+lst(), api.ErrMessage)
}

// 8.3: bytes are one request or none: what is read is asked as just those bytes, whichever byte is another one.

func TestOneByteChanged(t *testing.T) {
	for _, a := range asks() {
		for i := range a.b {
			for _, c := range []byte{0, 1, 2, 7, 8, 127, 128, 255, a.b[i] + 1, a.b[i] - 1} {
				b := a.b[:i] + string([]byte{c}) + a.b[i+1:]
				x, e := mess.Asked(b)
				if e == api.OK {
					asked(t, x, b)
				} else {
					noneAsked(t, b, api.ErrMessage)
				}
			}
		}
	}
	for _, a := range tells() {
		for i := range a.b {
			for _, c := range []byte{0, 1, 2, 7, 8, 127, 128, 255, a.b[i] + 1, a.b[i] - 1} {
				b := a.b[:i] + string([]byte{c}) + a.b[i+1:]
				x, e := mess.Told(b)
				if e == api.OK {
					told(t, x, b)
				} else {
					noneTold(t, b, api.ErrMessage)
				}
			}
		}
	}
}

// R4: what is handed in stays as it is, and what is handed out is the caller's own.

func TestHandedInStays(t *testing.T) {
	for i, a := range asks() {
		x := a.x
		mess.Ask(x)
		if !reflect.DeepEqual(x, asks()[i].x) {
			t.Errorf("request %d has changed: %v", i, x)
		}
	}
	for i, a := range tells() {
		mess.Tell(a.x)
		if !reflect.DeepEqual(a.x, tells()[i].x) {
			t.Errorf("reply %d has changed: %v", i, a.x)
		}
	}
}

func TestSpareRoomIsNeitherReadNorWritten(t *testing.T) {
	ops := []api.Op{fullOp(), {Kind: 55, Key: []api.Value{{Kind: 9}}}}
	args := []api.Value{{}, {Kind: 9, N: 4}}
	asked(t, api.Request{Kind: api.MBatch, Ops: ops[:1]}, num(3)+num(0)+lst(fullOpBytes))
	asked(t, api.Request{Kind: api.MCall, Args: args[:1]}, num(7)+num(0)+txt("")+txt(nullRow))
	asked(t, api.Request{Kind: api.MBye, Ops: ops[:0], Args: args[:0]}, num(8)+num(0))
	if ops[1].Kind != 55 || args[1].N != 4 {
		t.Errorf("written behind a list's length: %v %v", ops, args)
	}
	rows := [][]api.Value{five(), {{Kind: 9}}}
	results := []api.Result{{Rows: rows[:1]}, {Rows: rows}}
	told(t, api.Reply{Kind: api.PDone, Results: results[:1]}, num(3)+num(0)+num(0)+num(0)+txt("")+lst(num(0)+lst(txt(fiveRow))))
	if len(results[1].Rows) != 2 || rows[1][0].Kind != 9 {
		t.Errorf("written behind a list's length: %v %v", results, rows)
	}
}

// area is a piece of memory.
type area struct {
	what       string
	begin, end uintptr
}

func textArea(what, s string) area {
	p := uintptr(unsafe.Pointer(unsafe.StringData(s)))
	return area{what, p, p + uintptr(len(s))}
}

// listArea has a list's spare room, too.
func listArea[T any](what string, list []T) area {
	var member T
	p := uintptr(unsafe.Pointer(unsafe.SliceData(list)))
	return area{what, p, p + uintptr(cap(list))*unsafe.Sizeof(member)}
}

func rowAreas(what string, row []api.Value) []area {
	out := []area{listArea(what, row)}
	for _, v := range row {
		out = append(out, textArea(what+" text", v.S))
	}
	return out
}

func requestAreas(x api.Request) []area {
	out := append(rowAreas("Args", x.Args), textArea("Name", x.Name), textArea("Text", x.Text), listArea("Ops", x.Ops),
		textArea("Table", x.Table.Name), listArea("Columns", x.Table.Columns), listArea("Indexes", x.Table.Indexes))
	for _, c := range x.Table.Columns {
		out = append(out, textArea("column", c.Name))
	}
	for _, n := range x.Table.Indexes {
		out = append(out, textArea("index", n.Name), listArea("index columns", n.Columns))
	}
	for _, o := range x.Ops {
		out = append(out, textArea("op table", o.Table), textArea("op index", o.Index))
		out = append(out, slices.Concat(rowAreas("Key", o.Key), rowAreas("To", o.To), rowAreas("Row", o.Row))...)
	}
	return out
}

func replyAreas(x api.Reply) []area {
	out := []area{textArea("Text", x.Text), listArea("Results", x.Results)}
	for _, r := range x.Results {
		out = append(out, listArea("Rows", r.Rows))
		for _, row := range r.Rows {
			out = append(out, rowAreas("row", row)...)
		}
	}
	return out
}

// apart fails if two of these pieces of memory share any.
func apart(t *testing.T, areas []area) {
	t.Helper()
	for i, a := range areas {
		for _, b := range areas[:i] {
			if a.begin < b.end && b.begin < a.end {
				t.Errorf("%s and %s share memory", a.what, b.what)
			}
		}
	}
}

func TestHandedOutIsNew(t *testing.T) {
	for _, a := range asks() {
		b := strings.Clone(a.b)
		x, _ := mess.Asked(b)
		again, _ := mess.Asked(b)
		s, _ := mess.Ask(x)
		s2, _ := mess.Ask(x)
		apart(t, slices.Concat([]area{textArea("bytes read", b), textArea("bytes written", s), textArea("bytes written again", s2)}, requestAreas(x), requestAreas(again)))
	}
	for _, a := range tells() {
		b := strings.Clone(a.b)
		x, _ := mess.Told(b)
		again, _ := mess.Told(b)
		s, _ := mess.Tell(x)
		s2, _ := mess.Tell(x)
		apart(t, slices.Concat([]area{textArea("bytes read", b), textArea("bytes written", s), textArea("bytes written again", s2)}, replyAreas(x), replyAreas(again)))
	}
}

// R5: beside an error stands nothing; R7: the same call tells the same.

func TestSameCallsTellTheSame(t *testing.T) {
	for range 2 {
		for _, a := range asks() {
			asked(t, a.x, a.b)
			cantAsk(t, api.Request{}, api.ErrMessage)
			noneAsked(t, a.b+"q", api.ErrMessage)
		}
		for _, a := range tells() {
			told(t, a.x, a.b)
			cantTell(t, api.Reply{}, api.ErrMessage)
			noneTold(t, a.b+"q", api.ErrMessage)
		}
	}
}

// P1: every call ends, in a time that does not hang on what would be written if there were room.

func TestMessagesThatWouldBeHuge(t *testing.T) {
	text := strings.Repeat("q", api.MaxText)
	wide := make([]api.Value, api.MaxRow)
	for i := range wide {
		wide[i] = api.Value{Kind: api.VText, S: text}
	}
	rows := make([][]api.Value, api.MaxItems)
	for i := range rows {
		rows[i] = wide
	}
	results := make([]api.Result, 64)
	for i := range results {
		results[i].Rows = rows
	}
	cantTell(t, api.Reply{Kind: api.PDone, Results: results}, api.ErrLong)
	ops := make([]api.Op, api.MaxItems)
	name := strings.Repeat("n", 1<<24)
	for i := range ops {
		ops[i] = api.Op{Table: name, Key: wide, To: wide, Row: wide, Index: name}
	}
	cantAsk(t, api.Request{Kind: api.MBatch, Ops: ops}, api.ErrLong)
	ops[api.MaxItems-1].Row = []api.Value{{Kind: 9}}
	cantAsk(t, api.Request{Kind: api.MBatch, Ops: ops}, api.ErrMessage)
}
