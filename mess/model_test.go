package mess_test

import (
	"encoding/binary"
	"math"
	"math/rand"
	"reflect"
	"slices"
	"strings"
	"testing"

	"hopper/api"
	"hopper/mess"
	"hopper/value"
)

// The model is the chapter's words, written out as plainly as may be: the form follows from the types of package api, whose fields stand in the form's order.

var rowType = reflect.TypeFor[[]api.Value]()

// written answers the bytes of a thing that may be.
func written(v reflect.Value) string {
	switch {
	case v.Type() == rowType:
		s, _ := value.Encode(v.Interface().([]api.Value))
		return written(reflect.ValueOf(s))
	case v.Kind() == reflect.Slice:
		members := []string{written(reflect.ValueOf(v.Len()))}
		for i := range v.Len() {
			members = append(members, written(v.Index(i)))
		}
		return strings.Join(members, "")
	case v.Kind() == reflect.Struct:
		out := ""
		for i := range v.NumField() {
			out += written(v.Field(i))
		}
		return out
	case v.Kind() == reflect.String:
		return written(reflect.ValueOf(v.Len())) + v.String()
	case v.Kind() == reflect.Bool && v.Bool():
		return "\x01"
	case v.Kind() == reflect.Bool:
		return "\x00"
	}
	return string(binary.LittleEndian.AppendUint64(nil, uint64(v.Int())))
}

// take answers what is left of b behind a thing at its front, which it puts into v; false, if there is none.
func take(v reflect.Value, b string) (string, bool) {
	switch {
	case v.Type() == rowType:
		var s string
		b, ok := take(reflect.ValueOf(&s).Elem(), b)
		row, f := value.Decode(s)
		v.Set(reflect.ValueOf(row))
		return b, ok && f.Code == api.OK
	case v.Kind() == reflect.Slice:
		return takeList(v, b)
	case v.Kind() == reflect.Struct:
		ok := true
		for i := 0; ok && i < v.NumField(); i++ {
			b, ok = take(v.Field(i), b)
		}
		return b, ok
	case v.Kind() == reflect.String:
		n, b, ok := takeNumber(b)
		if !ok || n < 0 || n > int64(len(b)) {
			return "", false
		}
		v.SetString(b[:n])
		return b[n:], true
	case v.Kind() == reflect.Bool:
		if b == "" || b[0] > 1 {
			return "", false
		}
		v.SetBool(b[0] == 1)
		return b[1:], true
	}
	n, b, ok := takeNumber(b)
	v.SetInt(n)
	return b, ok
}

func takeList(v reflect.Value, b string) (string, bool) {
	n, b, ok := takeNumber(b)
	if !ok || n < 0 || n > 4096 {
		return "", false
	}
	for range n {
		member := reflect.New(v.Type().Elem()).Elem()
		if b, ok = take(member, b); !ok {
			return "", false
		}
		v.Set(reflect.Append(v, member))
	}
	return b, true
}

func takeNumber(b string) (int64, string, bool) {
	if len(b) < 8 {
		return 0, "", false
	}
	return int64(binary.LittleEndian.Uint64([]byte(b))), b[8:], true
}

// mayBeIn looks at all rows and lists.
func mayBeIn(v reflect.Value) bool {
	switch {
	case v.Type() == rowType:
		_, e := value.Check(v.Interface().([]api.Value))
		return e == api.OK
	case v.Kind() == reflect.Slice:
		for i := range v.Len() {
			if !mayBeIn(v.Index(i)) {
				return false
			}
		}
		return v.Len() <= 4096
	case v.Kind() == reflect.Struct:
		for i := range v.NumField() {
			if !mayBeIn(v.Field(i)) {
				return false
			}
		}
	}
	return true
}

func epochMayBe(n int) bool { return n >= 0 && n <= 2147483648 }

// others answers a request without the fields of its kind.
func others(x api.Request) api.Request {
	v := reflect.ValueOf(&x).Elem()
	for _, name := range append(own(x.Kind), "Kind", "Id") {
		v.FieldByName(name).SetZero()
	}
	return x
}

func requestMayBe(x api.Request) bool {
	return x.Kind >= 1 && x.Kind <= 8 && epochMayBe(x.Id) && mayBeIn(reflect.ValueOf(x)) && isNoRequest(others(x))
}

func replyMayBe(x api.Reply) bool {
	return x.Kind >= 1 && x.Kind <= 5 && epochMayBe(x.Id) && epochMayBe(x.Epoch) && mayBeIn(reflect.ValueOf(x))
}

func modelAsk(x api.Request) (string, api.Errno) {
	if !requestMayBe(x) {
		return "", api.ErrMessage
	}
	out := written(reflect.ValueOf(x.Kind)) + written(reflect.ValueOf(x.Id))
	for _, name := range own(x.Kind) {
		out += written(reflect.ValueOf(x).FieldByName(name))
	}
	return orLong(out)
}

func modelTell(x api.Reply) (string, api.Errno) {
	if !replyMayBe(x) {
		return "", api.ErrMessage
	}
	return orLong(written(reflect.ValueOf(x)))
}

func orLong(b string) (string, api.Errno) {
	if len(b) > 65536 {
		return "", api.ErrLong
	}
	return b, api.OK
}

func modelAsked(b string) (api.Request, api.Errno) {
	if len(b) > 65536 {
		return api.Request{}, api.ErrLong
	}
	var x api.Request
	v := reflect.ValueOf(&x).Elem()
	ok := true
	for _, name := range []string{"Kind", "Id"} {
		if ok {
			b, ok = take(v.FieldByName(name), b)
		}
	}
	for _, name := range own(x.Kind) {
		if ok {
			b, ok = take(v.FieldByName(name), b)
		}
	}
	if !ok || b != "" || !requestMayBe(x) {
		return api.Request{}, api.ErrMessage
	}
	return x, api.OK
}

func modelTold(b string) (api.Reply, api.Errno) {
	if len(b) > 65536 {
		return api.Reply{}, api.ErrLong
	}
	var x api.Reply
	b, ok := take(reflect.ValueOf(&x).Elem(), b)
	if !ok || b != "" || !replyMayBe(x) {
		return api.Reply{}, api.ErrMessage
	}
	return x, api.OK
}

// What is drawn.

func drawText(r *rand.Rand) string {
	n := r.Intn(6)
	switch r.Intn(200) {
	case 0:
		n = 65536 - 100 + r.Intn(120)
	case 1:
		n = r.Intn(5000)
	}
	b := make([]byte, n)
	r.Read(b)
	return string(b)
}

func drawInt(r *rand.Rand) int {
	edges := []int{math.MinInt64, -1, 0, 0, 1, 2, 255, 256, 1 << 31, 1<<31 + 1, math.MaxInt64}
	return edges[r.Intn(len(edges))]
}

// drawEpoch answers one that may be, mostly.
func drawEpoch(r *rand.Rand) int {
	if r.Intn(40) == 0 {
		return drawInt(r)
	}
	return []int{0, 1, 77, 1<<31 - 1, 1 << 31}[r.Intn(5)]
}

func drawValue(r *rand.Rand) api.Value {
	switch r.Intn(60) {
	case 0:
		return api.Value{Kind: 6 + r.Intn(2)}
	case 1:
		return api.Value{Kind: r.Intn(6), N: 2, S: "s"}
	}
	switch kind := r.Intn(6); kind {
	case api.VBool:
		return api.Value{Kind: kind, N: int64(r.Intn(2))}
	case api.VInt:
		return api.Value{Kind: kind, N: int64(drawInt(r))}
	case api.VFloat:
		return api.Value{Kind: kind, C: complex(r.NormFloat64(), 0)}
	case api.VPair:
		return api.Value{Kind: kind, C: complex(r.NormFloat64(), math.Copysign(0, -1))}
	case api.VText:
		return api.Value{Kind: kind, S: drawText(r)}
	}
	return api.Value{}
}

func drawList[T any](r *rand.Rand, most int, draw func(*rand.Rand) T) []T {
	list := make([]T, r.Intn(most+1))
	for i := range list {
		list[i] = draw(r)
	}
	if len(list) == 0 && r.Intn(2) == 0 {
		return nil
	}
	return list
}

func drawRow(r *rand.Rand) []api.Value {
	if r.Intn(60) == 0 {
		return make([]api.Value, 30+r.Intn(5))
	}
	return drawList(r, 3, drawValue)
}

func drawOp(r *rand.Rand) api.Op {
	return api.Op{Kind: drawInt(r), Table: drawText(r), Key: drawRow(r), To: drawRow(r), Row: drawRow(r), Index: drawText(r), At: drawInt(r), N: int64(drawInt(r)), Limit: drawInt(r)}
}

func drawColumn(r *rand.Rand) api.Column { return api.Column{Name: drawText(r), Kind: drawInt(r)} }

func drawIndex(r *rand.Rand) api.Index {
	x := api.Index{Name: drawText(r), Columns: drawList(r, 3, drawInt), Unique: r.Intn(2) == 0}
	if r.Intn(40) == 0 {
		x.Columns = make([]int, 4095+r.Intn(3))
	}
	return x
}

func drawTable(r *rand.Rand) api.Table {
	return api.Table{Name: drawText(r), Columns: drawList(r, 3, drawColumn), Key: drawInt(r), Indexes: drawList(r, 3, drawIndex)}
}

func drawResult(r *rand.Rand) api.Result {
	x := api.Result{Code: api.Errno(drawInt(r)), Rows: drawList(r, 3, drawRow)}
	if r.Intn(40) == 0 {
		x.Rows = make([][]api.Value, 4095+r.Intn(3))
	}
	return x
}

func drawReply(r *rand.Rand) api.Reply {
	x := api.Reply{Kind: 1 + r.Intn(5), Id: drawEpoch(r), Code: api.Errno(drawInt(r)), Epoch: drawEpoch(r), Text: drawText(r), Results: drawList(r, 3, drawResult)}
	if r.Intn(20) == 0 {
		x.Kind = drawInt(r)
	}
	return x
}

// drawRequest gives a request something in the fields of its kind, and now and then in one more.
func drawRequest(r *rand.Rand) api.Request {
	x := api.Request{Kind: 1 + r.Intn(8), Id: drawEpoch(r)}
	names := own(x.Kind)
	if r.Intn(10) == 0 {
		names = append(slices.Clone(names), []string{"Name", "Text", "Table", "Ops", "Args"}[r.Intn(5)])
	}
	for _, name := range names {
		switch name {
		case "Name":
			x.Name = drawText(r)
		case "Text":
			x.Text = drawText(r)
		case "Table":
			x.Table = drawTable(r)
		case "Ops":
			x.Ops = drawList(r, 3, drawOp)
		case "Args":
			x.Args = drawRow(r)
		}
	}
	if r.Intn(20) == 0 {
		x.Kind = drawInt(r)
	}
	return x
}

// spoil answers bytes that are like b, mostly no message's.
func spoil(r *rand.Rand, b string) string {
	at := r.Intn(len(b) + 1)
	switch r.Intn(8) {
	case 0:
		return b[:at]
	case 1:
		return b + string([]byte{byte(r.Intn(3))})
	case 2:
		return b[:at] + string([]byte{byte(r.Intn(256))}) + b[at:]
	case 3:
		return b[:at] + b[min(len(b), at+1+r.Intn(8)):]
	case 4:
		// A number is another one: counts, kinds and Ids stand at every eighth place of much that is drawn.
		at -= at % 8
		return b[:at] + num(int64(drawInt(r))) + b[min(len(b), at+8):]
	case 5:
		at -= at % 8
		return b[:at] + num(int64(r.Intn(10))) + b[min(len(b), at+8):]
	case 6:
		return b + strings.Repeat("\x00", 65536)
	}
	if at == len(b) {
		return b
	}
	return b[:at] + string([]byte{b[at] ^ 1<<r.Intn(8)}) + b[at+1:]
}

// heldAgainst fails unless the calls tell of b what the model does, and write what they read as it was.
func heldAgainst(t *testing.T, b string, seen map[api.Errno]int) {
	t.Helper()
	x, e := mess.Asked(b)
	wantX, want := modelAsked(b)
	if e != want || !same(x, wantX) {
		t.Fatalf("asked %s: %s, %d; not %s, %d", brief(b), brief(x), e, brief(wantX), want)
	}
	if s, e2 := mess.Ask(x); e == api.OK && (s != b || e2 != api.OK) {
		t.Fatalf("ask %s: %s, %d; not %s", brief(x), brief(s), e2, brief(b))
	}
	y, f := mess.Told(b)
	wantY, wantF := modelTold(b)
	if f != wantF || !sameReply(y, wantY) {
		t.Fatalf("told %s: %s, %d; not %s, %d", brief(b), brief(y), f, brief(wantY), wantF)
	}
	if s, f2 := mess.Tell(y); f == api.OK && (s != b || f2 != api.OK) {
		t.Fatalf("tell %s: %s, %d; not %s", brief(y), brief(s), f2, brief(b))
	}
	seen[e]++
	seen[f]++
}

// toldEach fails unless each of the errors, and OK, was told often enough to have been looked at.
func toldEach(t *testing.T, seen map[api.Errno]int) {
	t.Helper()
	for _, e := range []api.Errno{api.OK, api.ErrMessage, api.ErrLong} {
		if seen[e] < 20 {
			t.Errorf("%d was told %d times alone", e, seen[e])
		}
	}
	if len(seen) != 3 {
		t.Errorf("other errors: %v", seen)
	}
}

func TestRequestsAgainstTheModel(t *testing.T) {
	r := rand.New(rand.NewSource(81))
	wrote, read := map[api.Errno]int{}, map[api.Errno]int{}
	for range 6000 {
		x := drawRequest(r)
		b, e := mess.Ask(x)
		wantB, want := modelAsk(x)
		if b != wantB || e != want {
			t.Fatalf("ask %s: %s, %d; not %s, %d", brief(x), brief(b), e, brief(wantB), want)
		}
		if got, e2 := mess.Asked(b); e == api.OK && (e2 != api.OK || !same(got, x)) {
			t.Fatalf("asked %s: %s, %d; not %s", brief(b), brief(got), e2, brief(x))
		}
		wrote[e]++
		heldAgainst(t, b, read)
		heldAgainst(t, spoil(r, b), read)
		heldAgainst(t, spoil(r, spoil(r, b)), read)
	}
	toldEach(t, wrote)
	toldEach(t, read)
}

func TestRepliesAgainstTheModel(t *testing.T) {
	r := rand.New(rand.NewSource(82))
	wrote, read := map[api.Errno]int{}, map[api.Errno]int{}
	for range 6000 {
		x := drawReply(r)
		b, e := mess.Tell(x)
		wantB, want := modelTell(x)
		if b != wantB || e != want {
			t.Fatalf("tell %s: %s, %d; not %s, %d", brief(x), brief(b), e, brief(wantB), want)
		}
		if got, e2 := mess.Told(b); e == api.OK && (e2 != api.OK || !sameReply(got, x)) {
			t.Fatalf("told %s: %s, %d; not %s", brief(b), brief(got), e2, brief(x))
		}
		wrote[e]++
		heldAgainst(t, b, read)
		heldAgainst(t, spoil(r, b), read)
		heldAgainst(t, spoil(r, spoil(r, b)), read)
	}
	toldEach(t, wrote)
	toldEach(t, read)
}

// P1: whatever the bytes, no call panics.

func TestNeverPanics(t *testing.T) {
	r := rand.New(rand.NewSource(83))
	seen := map[api.Errno]int{}
	for range 20000 {
		b := make([]byte, r.Intn(120))
		for i := range b {
			if r.Intn(3) == 0 {
				b[i] = byte(r.Intn(256) >> r.Intn(9))
			}
		}
		heldAgainst(t, string(b), seen)
		if len(b) > 0 {
			heldAgainst(t, num(int64(1+r.Intn(8)))+num(0)+string(b), seen)
		}
	}
}
