package session_test

import (
	"crypto/hmac"
	"crypto/sha256"
	"encoding/binary"
	"math"
	"slices"
	"strings"
	"testing"

	"hopper/api"
	"hopper/auth"
	"hopper/mess"
	"hopper/session"
)

// The phases, as the chapter numbers them.
const (
	fresh      = 0
	challenged = 1
	known      = 2
	closed     = 3
)

// What goes in and out, put together by the words of the chapters 7, 8 and 25 and by Go's own library.

func num(n int) string {
	return string(binary.LittleEndian.AppendUint64(nil, uint64(n)))
}

func txt(s string) string { return num(len(s)) + s }

func length(n uint32) string {
	return string(binary.BigEndian.AppendUint32(nil, n))
}

func packed(body string) string { return length(uint32(len(body))) + body }

// reply is the packet of one without an Epoch and Results.
func reply(kind, id int, code api.Errno, text string) string {
	return packed(num(kind) + num(id) + num(int(code)) + num(0) + txt(text) + num(0))
}

func refusal(id int, code api.Errno) string { return reply(4, id, code, "") }

func libraryChallenge(draw uint64, number int) string {
	b := binary.LittleEndian.AppendUint64([]byte("challenge"), draw)
	d := sha256.Sum256(binary.LittleEndian.AppendUint64(b, uint64(int64(number))))
	return string(d[:])
}

func libraryProof(key, name, challenge string) string {
	h := hmac.New(sha256.New, []byte(key))
	h.Write([]byte(name + "\x00" + challenge))
	return string(h.Sum(nil))
}

// body is a request's bytes; those of one that may not be are none.
func body(x api.Request) string {
	b, _ := mess.Ask(x)
	return b
}

// asking is the packet of a request.
func asking(x api.Request) string { return packed(body(x)) }

func hello(id int, name string) string {
	return asking(api.Request{Kind: api.MHello, Id: id, Name: name})
}

func proving(id int, text string) string {
	return asking(api.Request{Kind: api.MProof, Id: id, Text: text})
}

func bye(id int) string { return asking(api.Request{Kind: api.MBye, Id: id}) }

func drop(id int) api.Request {
	return api.Request{Kind: api.MDrop, Id: id, Name: "t"}
}

// inRow has the packets of requests, one behind the other.
func inRow(list ...api.Request) string {
	var out strings.Builder
	for _, x := range list {
		out.WriteString(asking(x))
	}
	return out.String()
}

// The draw and the number of the sessions that a test has no others for, and the proof of ann, whose key is k.
const (
	theDraw   = 5
	theNumber = 3
)

func theChallenge() string { return libraryChallenge(theDraw, theNumber) }

func theProof() string { return libraryProof("k", "ann", theChallenge()) }

func theKeys() *auth.Keys { return keysOf("ann", "k", "bob", "b") }

// keysOf has names and keys, by turns.
func keysOf(list ...string) *auth.Keys {
	k := auth.New()
	for at := 0; at < len(list); at += 2 {
		k.Put(list[at], list[at+1])
	}
	return k
}

// line is a session beside what it is to tell of itself.
type line struct {
	t     *testing.T
	s     *session.Session
	phase int
	name  string
}

func open(t *testing.T, k *auth.Keys, draw uint64, number int) *line {
	t.Helper()
	s, e := session.New(k, draw, number)
	if s == nil || e != api.OK {
		t.Fatalf("New with %d and %d: %v, %d", draw, number, s, e)
	}
	l := &line{t: t, s: s}
	l.state()
	return l
}

// state looks at what the session tells of itself, asked again, too.
func (l *line) state() {
	l.t.Helper()
	for range 2 {
		if p, n := l.s.Phase(), l.s.Name(); p != l.phase || n != l.name {
			l.t.Fatalf("phase %d, name %q; not %d, %q", p, n, l.phase, l.name)
		}
	}
}

// answers looks whether bytes come to replies and requests that are passed on.
func (l *line) answers(b, out string, passed ...api.Request) {
	l.t.Helper()
	got, list, e := l.s.Feed(b)
	if e != api.OK || got != out {
		l.t.Fatalf("feed of %d bytes %.60q: %d, %d bytes %.200q; not %d bytes %.200q", len(b), b, e, len(got), got, len(out), out)
	}
	same(l.t, list, passed)
	l.state()
}

// becomes is answers of bytes that change the phase.
func (l *line) becomes(phase int, name, b, out string, passed ...api.Request) {
	l.t.Helper()
	l.state()
	l.phase, l.name = phase, name
	l.answers(b, out, passed...)
}

// closes is answers of bytes that close the session; whatever is fed behind them is refused.
func (l *line) closes(b, out string, passed ...api.Request) {
	l.t.Helper()
	l.becomes(closed, "", b, out, passed...)
	for _, more := range []string{"", "\x00", b, hello(1, "ann"), bye(2), strings.Repeat("\x00", api.MaxBytes+1)} {
		l.refuses(more, api.ErrClosed)
	}
}

// refuses looks at a Feed that is an error, and made twice.
func (l *line) refuses(b string, e api.Errno) {
	l.t.Helper()
	for range 2 {
		out, passed, got := l.s.Feed(b)
		if out != "" || len(passed) != 0 || got != e {
			l.t.Fatalf("feed of %d bytes %.60q: %d bytes, %d requests, %d; not %d", len(b), b, len(out), len(passed), got, e)
		}
		l.state()
	}
}

// same looks whether requests are as they are to be; by 8.3 their bytes tell so.
func same(t *testing.T, got, want []api.Request) {
	t.Helper()
	if len(got) != len(want) {
		t.Fatalf("%d requests %.300v, not %d", len(got), got, len(want))
	}
	for at := range want {
		if b := body(got[at]); b == "" || b != body(want[at]) {
			t.Fatalf("request %d: %.300v, not %.300v", at, got[at], want[at])
		}
	}
}

// inPhase has a session of theKeys that has come so far; not that it is closed by anything but MBye.
func inPhase(t *testing.T, phase int) *line {
	t.Helper()
	l := open(t, theKeys(), theDraw, theNumber)
	l.goOn(phase)
	return l
}

// goOn brings a session that is new, of theDraw and theNumber, to a phase.
func (l *line) goOn(phase int) {
	l.t.Helper()
	if phase == challenged || phase == known {
		l.becomes(challenged, "", hello(1, "ann"), reply(1, 1, api.OK, theChallenge()))
	}
	if phase == known {
		l.becomes(known, "ann", proving(2, theProof()), reply(2, 2, api.OK, ""))
	}
	if phase == closed {
		l.becomes(closed, "", bye(3), reply(3, 3, api.OK, ""))
	}
}

func openPhases() []int { return []int{fresh, challenged, known} }

func someIds() []int { return []int{0, 1, 2, 255, 256, 1 << 30, api.MaxEpoch - 1, api.MaxEpoch} }

// mixed is bytes of which each one hangs on its place.
func mixed(n int) string {
	out := make([]byte, n)
	x := uint32(12345)
	for i := range out {
		x = x*1664525 + 1013904223
		out[i] = byte(x >> 24)
	}
	return string(out)
}

// aRow has values of all kinds.
func aRow() []api.Value {
	return []api.Value{
		{}, {Kind: api.VBool, N: 1}, {Kind: api.VBool}, {Kind: api.VInt, N: math.MinInt64}, {Kind: api.VInt, N: 7},
		{Kind: api.VFloat, C: complex(-1.5, 0)}, {Kind: api.VPair, C: complex(0.25, -3)}, {Kind: api.VText, S: "\x00\xfftext"}, {Kind: api.VText},
	}
}

func aTable() api.Table {
	return api.Table{
		Name:    "stock",
		Columns: []api.Column{{Name: "a", Kind: api.VInt}, {Name: "b", Kind: api.VText}, {Name: "", Kind: -3}},
		Key:     2,
		Indexes: []api.Index{{Name: "i", Columns: []int{1, 0}, Unique: true}, {Name: "j", Columns: []int{2}}, {Name: "k"}},
	}
}

// someOps has each kind of operation, and ones that no layer would do.
func someOps() []api.Op {
	row := aRow()
	return []api.Op{
		{Kind: api.OGet, Table: "t", Key: row[:1]},
		{Kind: api.OPut, Table: "t", Row: row},
		{Kind: api.OInsert, Table: "u", Row: row[3:]},
		{Kind: api.ODelete, Table: "t", Key: row[4:5]},
		{Kind: api.OScan, Table: "t", Key: row[3:4], To: row[4:5], Limit: 9},
		{Kind: api.OFind, Table: "t", Index: "i", Key: row[7:8], Limit: api.MaxItems},
		{Kind: api.OAdd, Table: "t", Key: row[4:5], At: 1, N: math.MinInt64},
		{},
		{Kind: -1, Table: "\x00", Key: row, To: row, Row: row, Index: "\xff", At: -1, N: math.MaxInt64, Limit: -1},
	}
}

// someRequests has each kind, without its fields and with them.
func someRequests() []api.Request {
	return []api.Request{
		{Kind: api.MHello},
		{Kind: api.MHello, Name: "ann"},
		{Kind: api.MProof},
		{Kind: api.MProof, Text: theProof()},
		{Kind: api.MBatch},
		{Kind: api.MBatch, Ops: someOps()},
		{Kind: api.MRead},
		{Kind: api.MRead, Ops: someOps()},
		{Kind: api.MCreate},
		{Kind: api.MCreate, Table: aTable()},
		{Kind: api.MDrop},
		{Kind: api.MDrop, Name: "stock"},
		{Kind: api.MCall},
		{Kind: api.MCall, Name: "pay", Args: aRow()},
		{Kind: api.MBye},
	}
}

// passing has those of someRequests that are passed on when the client is known, with Ids that count up.
func passing() []api.Request {
	list := slices.DeleteFunc(someRequests(), func(x api.Request) bool { return x.Kind < api.MBatch || x.Kind > api.MCall })
	for at := range list {
		list[at].Id = at
	}
	return list
}

// The chapter's example.
func TestExample(t *testing.T) {
	l := open(t, keysOf("ann", "k"), 5, 3)
	l.becomes(challenged, "", hello(1, "ann"), reply(api.PChallenge, 1, api.OK, libraryChallenge(5, 3)))
	l.becomes(known, "ann", proving(2, libraryProof("k", "ann", libraryChallenge(5, 3))), reply(api.PWelcome, 2, api.OK, ""))
	batch := api.Request{Kind: api.MBatch, Id: 3, Ops: someOps()}
	l.answers(asking(batch), "", batch)
	l = open(t, keysOf("ann", "k"), 5, 3)
	l.becomes(closed, "", asking(batch), reply(api.PError, 3, api.ErrPhase, ""))
	l.refuses(asking(batch), api.ErrClosed)
}

// What the tests put together themselves is what the layers below tell.
func TestSamples(t *testing.T) {
	if theChallenge() != auth.Challenge(5, 3) || theProof() != auth.Proof("k", "ann", theChallenge()) {
		t.Error("the challenge or the proof is another one")
	}
	for _, x := range []api.Reply{{Kind: 1, Id: 7, Text: "abc"}, {Kind: 4, Id: api.MaxEpoch, Code: api.ErrPhase}, {Kind: 3}} {
		if b, e := mess.Tell(x); e != api.OK || packed(b) != reply(x.Kind, x.Id, x.Code, x.Text) {
			t.Error(x, e)
		}
	}
	for _, x := range append(someRequests(), drop(1)) {
		if body(x) == "" {
			t.Error(x, "may not be")
		}
	}
}
