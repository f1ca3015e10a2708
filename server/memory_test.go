package server_test

import (
	"fmt"
	"reflect"
	"runtime"
	"strings"
	"testing"
	"unsafe"

	"hopper/api"
	"hopper/auth"
	"hopper/disk"
	"hopper/server"
)

// R4: what is handed in is neither changed nor kept, and what is told is new.

// loose answers a text that a test may change behind a call, and the bytes that it is made of.
func loose(b string) (string, []byte) {
	bytes := []byte(b + "spare room")
	return unsafe.String(&bytes[0], len(b)), bytes
}

func spoil(bytes []byte) {
	for i := range bytes {
		bytes[i] ^= 0x5a
	}
}

// spoilAll changes all that hangs on an answer: texts, members of lists, and their spare room.
func spoilAll(v reflect.Value) {
	switch v.Kind() {
	case reflect.String:
		spoil(unsafe.Slice(unsafe.StringData(v.String()), v.Len()))
	case reflect.Struct:
		for i := range v.NumField() {
			spoilAll(v.Field(i))
		}
	case reflect.Slice:
		all := v.Slice(0, v.Cap())
		for i := range all.Len() {
			spoilAll(all.Index(i))
			all.Index(i).SetZero()
		}
	}
}

// area is memory that a text or a list takes, its spare room, too.
type area struct{ from, to uintptr }

func areas(v reflect.Value) []area {
	var out []area
	switch v.Kind() {
	case reflect.String:
		if v.Len() > 0 {
			from := uintptr(unsafe.Pointer(unsafe.StringData(v.String())))
			out = append(out, area{from, from + uintptr(v.Len())})
		}
	case reflect.Struct:
		for i := range v.NumField() {
			out = append(out, areas(v.Field(i))...)
		}
	case reflect.Slice:
		if v.Cap() > 0 {
			out = append(out, area{v.Pointer(), v.Pointer() + uintptr(v.Cap())*v.Type().Elem().Size()})
		}
		for i := range v.Len() {
			out = append(out, areas(v.Index(i))...)
		}
	}
	return out
}

// apart fails if two of some things have memory in common.
func apart(t *testing.T, things ...any) {
	t.Helper()
	var all []area
	for _, x := range things {
		all = append(all, areas(reflect.ValueOf(x))...)
	}
	for i, a := range all {
		for _, b := range all[:i] {
			if a.from < b.to && b.from < a.to {
				t.Fatalf("%x and %x of %d", a, b, len(all))
			}
		}
	}
	runtime.KeepAlive(things)
}

// everything has each kind of request, with texts, rows and lists.
func everything() []api.Request {
	all := row{null(), {Kind: api.VBool, N: 1}, num(-5), {Kind: api.VPair, C: 1 - 2i}, txt("text that is kept")}
	return []api.Request{
		create(1, indexed("u")),
		batch(2, put("u", num(1), txt("a text")), put("u", num(2), txt("another text")), scan("u"), find("u", "i", txt("a text"))),
		batch(3, api.Op{Kind: api.OScan, Table: "u", Key: all[2:3], To: nums(9), Limit: 5}, del("u", num(2)), put("u", all...)),
		query(4, scan("t"), find("u", "i", txt("a text"))),
		query(5, put("t", nums(1, 1)...)),
		{Kind: api.MCall, Id: 6, Name: "nothing", Args: all},
		drop(7, "nothing"),
		create(8, api.Table{Name: "bad name", Columns: []api.Column{{Name: "x", Kind: 9}}, Indexes: []api.Index{{Name: "i", Columns: []int{1, 2}}, {Name: "j", Columns: []int{0}}}}),
	}
}

func TestWhatIsSentIsNotKept(t *testing.T) {
	all := hello(1, "ann") + proving(2, auth.Proof("k", "ann", challengeOf(0))) + asking(everything()...)
	for _, n := range []int{1, 7, 50, 300, len(all)} {
		x := opens(t, saved(t, dataOf(plain("t"), 1, 1), 7), 1, 20)
		c := x.dial()
		for rest := all; rest != ""; {
			piece, bytes := loose(rest[:min(n, len(rest))])
			if e := x.s.Send(c, piece); e != api.OK || piece+"spare room" != string(bytes) || piece != rest[:len(piece)] {
				t.Fatal(n, e, "or the piece was changed")
			}
			spoil(bytes)
			rest = rest[len(piece):]
		}
		x.s.Recv(c)
		for _, r := range everything() {
			x.queue = append(x.queue, asked{c, r})
		}
		x.run()
		x.ends()
		x.takes(c)
		x.holds()
		x.crashes(1, 1)
	}
}

func TestWhatWasToldMayBeChanged(t *testing.T) {
	x := opens(t, saved(t, dataOf(plain("t"), 1, 1), 7), 2, 20)
	c := x.letIn()
	for range 3 {
		x.asks(c, everything()...)
		for len(x.queue) > 0 || x.working() > 0 {
			x.work(0)
			got := x.s.Ended()
			spoilAll(reflect.ValueOf(got))
			for epoch := x.first; epoch <= x.epoch; epoch++ {
				if d, e := x.s.AsOf(epoch); e == api.OK {
					d.Apply([]api.Op{put("t", nums(1, 99)...), put("t", nums(2, 99)...), del("u", num(1))})
					d.Drop("t")
					d.Create(plain("another"))
				}
			}
		}
		x.advance()
		x.flush()
		b, _ := x.s.Recv(c)
		if b != x.out[c] || b == "" {
			t.Fatal("something else came")
		}
		spoilAll(reflect.ValueOf(b))
		x.out[c] = ""
		x.takes(c)
		x.holds()
	}
	x.crashes(1, 1)
}

func TestWhatWasToldStays(t *testing.T) {
	x := opens(t, saved(t, dataOf(plain("t"), 1, 1), 7), 2, 20)
	c := x.letIn()
	x.asks(c, everything()...)
	x.run()
	b, _ := x.s.Recv(c)
	early, look := b, strings.Clone(b)
	first, again := x.s.Ended(), x.s.Ended()
	data, _ := x.s.AsOf(x.epoch)
	rows, _ := data.Rows("u")
	before := fmt.Sprint(first) + lookOf(data)
	apart(t, first, again, early, rows)
	for range 3 {
		x.asks(c, batch(9, put("u", num(1), txt("newer")), add("t", 1, 5, num(1)), del("u", num(2))), drop(10, "u"))
		x.run()
		x.advance()
		x.flush()
		x.s.Recv(c)
	}
	x.d.Crash(nil)
	opens(t, x.d, 1, 1)
	if fmt.Sprint(first)+lookOf(data) != before || fmt.Sprint(again) != fmt.Sprint(first) || early != look {
		t.Error("what was told has changed")
	}
	apart(t, x.s.Ended(), first, again, early, rows)
}

// A list that was told may be gone on with.
func TestEndedMayBeGoneOnWith(t *testing.T) {
	x := opens(t, saved(t, dataOf(plain("t"), 1, 1), 7), 1, 20)
	c := x.letIn()
	for n := range 20 {
		x.does(c, batch(n, get("t", num(1))))
		list := x.s.Ended()
		longer := append(list, api.Done{Conn: 77})
		x.does(c, query(n))
		x.s.Ended()
		if longer[len(list)].Conn != 77 {
			t.Fatal("it was written")
		}
		for at := range list {
			list[at] = api.Done{}
		}
	}
	x.holds()
}

// A server lets go what has gone out.
func TestServersKeepNoReplies(t *testing.T) {
	d := disk.New()
	s, _ := server.New(d, theKeys(), 1, 0, theDraw)
	c, _ := s.Dial()
	s.Send(c, hello(1, "ann")+proving(2, auth.Proof("k", "ann", challengeOf(c))))
	s.Recv(c)
	b := strings.Repeat(asking(batch(1)), 9000)
	heap := func() uint64 {
		runtime.GC()
		runtime.GC()
		var m runtime.MemStats
		runtime.ReadMemStats(&m)
		return m.HeapAlloc
	}
	before := heap()
	for range 5 {
		if e := s.Send(c, b); e != api.OK {
			t.Fatal(e)
		}
		if out, _ := s.Recv(c); len(out) != 9000*len(telling(api.Reply{Kind: api.PBusy})) {
			t.Fatal(len(out))
		}
	}
	if after := heap(); after > before+1<<17 {
		t.Error(after - before)
	}
	runtime.KeepAlive(s)
	runtime.KeepAlive(b)
}
