package session_test

import (
	"fmt"
	"reflect"
	"runtime"
	"strings"
	"testing"
	"unsafe"
	"weak"

	"hopper/api"
	"hopper/auth"
	"hopper/session"
)

// R4: what is handed in is neither changed nor kept, and what is told is new; rule 8 of the language: a session keeps no more than it needs.

// loose answers a text that a test may change behind a call, and the bytes that it is made of.
func loose(b string) (string, []byte) {
	bytes := []byte(b + "spare room")
	return unsafe.String(&bytes[0], len(b)), bytes
}

func spoil(bytes []byte) {
	for i := range bytes {
		bytes[i] ^= 0x5a
	}
}

// spoilText changes the bytes of an answer itself.
func spoilText(s string) { spoil(unsafe.Slice(unsafe.StringData(s), len(s))) }

// spoilAll changes all that hangs on an answer: texts, members of lists, and their spare room.
func spoilAll(v reflect.Value) {
	switch v.Kind() {
	case reflect.String:
		spoilText(v.String())
	case reflect.Struct:
		for i := range v.NumField() {
			spoilAll(v.Field(i))
		}
	case reflect.Slice:
		all := v.Slice(0, v.Cap())
		for i := range all.Len() {
			spoilAll(all.Index(i))
			all.Index(i).SetZero()
		}
	}
}

// area is memory that a text or a list takes, its spare room, too.
type area struct{ from, to uintptr }

func areas(v reflect.Value) []area {
	var out []area
	switch v.Kind() {
	case reflect.String:
		if v.Len() > 0 {
			from := uintptr(unsafe.Pointer(unsafe.StringData(v.String())))
			out = append(out, area{from, from + uintptr(v.Len())})
		}
	case reflect.Struct:
		for i := range v.NumField() {
			out = append(out, areas(v.Field(i))...)
		}
	case reflect.Slice:
		if v.Cap() > 0 {
			out = append(out, area{v.Pointer(), v.Pointer() + uintptr(v.Cap())*v.Type().Elem().Size()})
		}
		for i := range v.Len() {
			out = append(out, areas(v.Index(i))...)
		}
	}
	return out
}

// apart fails if two of some things have memory in common.
func apart(t *testing.T, things ...any) {
	t.Helper()
	var all []area
	for _, x := range things {
		all = append(all, areas(reflect.ValueOf(x))...)
	}
	for i, a := range all {
		for _, b := range all[:i] {
			if a.from < b.to && b.from < a.to {
				t.Fatalf("%x and %x of %d", a, b, len(all))
			}
		}
	}
	runtime.KeepAlive(things)
}

func TestWhatIsFedIsNotKept(t *testing.T) {
	all := hello(1, "ann") + proving(2, theProof()) + inRow(passing()...)
	out := reply(1, 1, api.OK, theChallenge()) + reply(2, 2, api.OK, "")
	for _, n := range []int{1, 3, 10, 31, 57, 100, 333, len(all)} {
		s, _ := session.New(theKeys(), theDraw, theNumber)
		told, passed := "", []api.Request(nil)
		for rest := all; rest != ""; {
			piece, bytes := loose(rest[:min(n, len(rest))])
			more, list, e := s.Feed(piece)
			if e != api.OK || piece+"spare room" != string(bytes) || piece != rest[:len(piece)] {
				t.Fatal(n, e, "or the piece was changed")
			}
			spoil(bytes)
			told, passed = told+more, append(passed, list...)
			rest = rest[len(piece):]
		}
		if told != out || s.Name() != "ann" {
			t.Errorf("%d: %q %q", n, told, s.Name())
		}
		same(t, passed, passing())
	}
}

func TestWhatWasToldMayBeChanged(t *testing.T) {
	l, other := open(t, theKeys(), theDraw, theNumber), open(t, theKeys(), theDraw, theNumber)
	feed := func(b, out string, passed ...api.Request) {
		t.Helper()
		for _, x := range []*session.Session{l.s, other.s} {
			got, list, e := x.Feed(b)
			if got != out || e != api.OK {
				t.Fatalf("%q, %d", got, e)
			}
			same(t, list, passed)
			spoilText(got)
			spoilAll(reflect.ValueOf(list))
			spoilText(x.Name())
		}
	}
	feed(hello(1, "ann"), reply(1, 1, api.OK, theChallenge()))
	feed(proving(2, theProof()), reply(2, 2, api.OK, ""))
	for range 3 {
		for _, x := range passing() {
			feed(asking(x), "", x)
		}
		feed(inRow(passing()...)+bye(1)[:5], "", passing()...)
		l.phase, l.name = known, "ann"
		l.state()
		feed(bye(1)[5:]+bye(2), reply(3, 1, api.OK, ""))
		l, other = open(t, theKeys(), theDraw, theNumber), open(t, theKeys(), theDraw, theNumber)
		feed(hello(1, "ann")+proving(2, theProof()), reply(1, 1, api.OK, theChallenge())+reply(2, 2, api.OK, ""))
	}
}

// What was told stays as it is, whatever comes behind it, and none of it lies where other things do.
func TestWhatWasToldStays(t *testing.T) {
	s, _ := session.New(theKeys(), theDraw, theNumber)
	all := hello(1, "ann") + proving(2, theProof()) + inRow(passing()...)
	first, _, _ := s.Feed(all[:len(hello(1, "ann"))])
	second, passed, _ := s.Feed(all[len(hello(1, "ann")):])
	name, again := s.Name(), s.Name()
	_, more, _ := s.Feed(inRow(passing()...))
	_, single, _ := s.Feed(asking(drop(1)))
	last, _, _ := s.Feed(bye(9))
	if first != reply(1, 1, api.OK, theChallenge()) || second != reply(2, 2, api.OK, "") || last != reply(3, 9, api.OK, "") || name != "ann" || again != "ann" {
		t.Errorf("%q %q %q %q %q", first, second, last, name, again)
	}
	same(t, passed, passing())
	same(t, more, passing())
	same(t, single, []api.Request{drop(1)})
	apart(t, all, first, second, last, name, again, passed, more, single)
	for _, x := range more {
		apart(t, x)
	}
}

// A list that was told may be gone on with: the session does not write where it lies.
func TestPassedListsAreNotWrittenAnyMore(t *testing.T) {
	l := inPhase(t, known)
	for n := range 40 {
		_, list, _ := l.s.Feed(strings.Repeat(asking(drop(n)), n%6))
		longer := append(list, drop(1000))
		_, other, _ := l.s.Feed(asking(drop(77)))
		same(t, other, []api.Request{drop(77)})
		same(t, longer[len(list):], []api.Request{drop(1000)})
		for _, x := range list {
			same(t, []api.Request{x}, []api.Request{drop(n)})
		}
	}
}

// R7: sessions of which the same is asked tell the same.
func TestTheSameTellsTheSame(t *testing.T) {
	for _, x := range streams() {
		for range 2 {
			x.runs(t, []string{x.b})
		}
	}
}

func heap() uint64 {
	runtime.GC()
	runtime.GC()
	var m runtime.MemStats
	runtime.ReadMemStats(&m)
	return m.HeapAlloc
}

// keepsLittle looks whether so many sessions hold less than a number of bytes more behind what is done with each.
func keepsLittle(t *testing.T, what string, many int, most uint64, do func(s *session.Session)) {
	t.Helper()
	k := keysOf("ann", "k")
	before := heap()
	sessions := make([]*session.Session, many)
	for at := range sessions {
		sessions[at], _ = session.New(k, theDraw, theNumber)
		do(sessions[at])
	}
	if after := heap(); after > before+most {
		t.Errorf("%s: %d bytes more", what, after-before)
	}
	runtime.KeepAlive(sessions)
	runtime.KeepAlive(k)
}

func TestSessionsKeepLittle(t *testing.T) {
	long := strings.Repeat("n", 60000)
	big := api.Request{Kind: api.MDrop, Name: long}
	in := hello(1, "ann") + proving(2, theProof())
	for what, list := range map[string][]string{
		"new":                        {""},
		"known":                      {in},
		"a request passed on":        {in, asking(big)},
		"requests passed on":         {in, asking(big), asking(big) + asking(big), asking(big)[:500], asking(big)[500:]},
		"closed by bye":              {hello(1, long), bye(1)},
		"closed by a wrong proof":    {hello(1, long), proving(1, long)},
		"closed by a phase":          {hello(1, long), hello(1, long)},
		"closed by no request":       {hello(1, long), packed(long) + asking(big)},
		"closed by a length":         {hello(1, long), length(1<<20) + long},
		"closed ahead of a part":     {in, bye(1) + asking(big)[:50000]},
		"closed, and fed":            {in, bye(1), asking(big), long},
		"what was refused as long":   {strings.Repeat(long, 5)},
		"known, refused, closed":     {in, strings.Repeat(long, 5), asking(big), bye(1)},
		"a hello and a part, closed": {hello(1, "ann") + proving(2, long)[:50000], proving(2, long)[50000:]},
	} {
		keepsLittle(t, what, 200, 1<<19, func(s *session.Session) {
			for _, b := range list {
				s.Feed(strings.Clone(b))
			}
		})
	}
}

// A session that lives long keeps nothing of what it has passed on.
func TestALongSessionKeepsLittle(t *testing.T) {
	b := inRow(passing()...)
	keepsLittle(t, "long", 1, 1<<18, func(s *session.Session) {
		s.Feed(hello(1, "ann") + proving(2, theProof()))
		for n := range 3000 {
			cut := n % len(b)
			s.Feed(b[:cut])
			s.Feed(b[cut:])
		}
		if s.Phase() != known {
			t.Error(s.Phase())
		}
	})
}

// Of the way in nothing is kept but the name, and of a closed session nothing.
func TestSessionsKeepNothingOfTheWayIn(t *testing.T) {
	k, many := keysOf("ann", "k"), 20000
	sessions := make([]*session.Session, many)
	for at := range sessions {
		sessions[at], _ = session.New(k, theDraw, theNumber)
	}
	in := hello(1, "ann") + proving(2, theProof())
	before := heap()
	for _, s := range sessions {
		s.Feed(in)
	}
	// A name of three bytes takes 16 of memory at most.
	if after := heap(); after > before+24*uint64(many) {
		t.Errorf("known: %d bytes more", after-before)
	}
	for _, s := range sessions {
		s.Feed(bye(3))
	}
	if after := heap(); after > before {
		t.Errorf("closed: %d bytes more", after-before)
	}
	runtime.KeepAlive(sessions)
}

// The table of keys is let go when nothing is asked of it any more.
func TestKeysAreLetGo(t *testing.T) {
	for what, b := range map[string]string{
		"known":  hello(1, "ann") + proving(2, theProof()),
		"closed": bye(1),
		"wrong":  hello(1, "ann") + proving(2, ""),
		"length": length(1 << 20),
	} {
		k := keysOf("ann", "k")
		w := weak.Make(k)
		s, _ := session.New(k, theDraw, theNumber)
		k = nil
		runtime.GC()
		if w.Value() == nil {
			t.Error(what, "the table is gone too early")
		}
		s.Feed(b)
		runtime.GC()
		if w.Value() != nil {
			t.Error(what, "the table is still held")
		}
		runtime.KeepAlive(s)
	}
}

// P1: no bytes make a call panic or go on for ever, those of a table that auth has made by another way, too.
func TestNothingPanics(t *testing.T) {
	for at, k := range []*auth.Keys{auth.New(), keysOf("ann", "k"), {}} {
		for n := range 300 {
			s, e := session.New(k, uint64(n), -n)
			if e != api.OK {
				t.Fatal(e)
			}
			s.Feed(mixed(n))
			s.Feed(mixed(n)[n/2:])
			s.Feed(packed(mixed(n)))
			s.Feed(hello(n, fmt.Sprint(n)) + proving(n, mixed(n)) + packed(mixed(n)))
			if s.Name() != "" || s.Phase() != closed {
				t.Error(at, n, s.Name(), s.Phase())
			}
		}
	}
}
