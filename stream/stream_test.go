package stream_test

import (
	"fmt"
	"math"
	"strings"
	"testing"

	"hopper/api"
	"hopper/stream"
)

// must fails when a call does not answer what it should.
func must(t *testing.T, what string, got, want api.Errno) {
	t.Helper()
	if got != want {
		t.Errorf("%s: %d, not %d", what, got, want)
	}
}

// dialled is a net with so many connections.
func dialled(t *testing.T, conns int) *stream.Net {
	t.Helper()
	n := stream.New()
	for want := range conns {
		if conn, e := n.Dial(); conn != want || e != api.OK {
			t.Fatalf("dial: %d %d, not %d", conn, e, want)
		}
	}
	return n
}

func write(t *testing.T, n *stream.Net, conn, side int, data string) {
	t.Helper()
	must(t, fmt.Sprintf("write %d %d of %s", conn, side, short(data)), n.Write(conn, side, data), api.OK)
}

func arrive(t *testing.T, n *stream.Net, conn, side, most, want int) {
	t.Helper()
	if got, e := n.Arrive(conn, side, most); got != want || e != api.OK {
		t.Errorf("arrive %d %d %d: %d %d, not %d", conn, side, most, got, e, want)
	}
}

func read(t *testing.T, n *stream.Net, conn, side, most int, want string) {
	t.Helper()
	if got, e := n.Read(conn, side, most); got != want || e != api.OK {
		t.Errorf("read %d %d %d: %s %d, not %s", conn, side, most, short(got), e, short(want))
	}
}

func pending(t *testing.T, n *stream.Net, conn, side, way, here int) {
	t.Helper()
	if w, h, e := n.Pending(conn, side); w != way || h != here || e != api.OK {
		t.Errorf("pending %d %d: %d %d %d, not %d %d", conn, side, w, h, e, way, here)
	}
}

func ended(t *testing.T, n *stream.Net, conn, side int, want bool) {
	t.Helper()
	if got, e := n.Ended(conn, side); got != want || e != api.OK {
		t.Errorf("ended %d %d: %t %d, not %t", conn, side, got, e, want)
	}
}

func short(s string) string {
	if len(s) > 40 {
		return fmt.Sprintf("%d bytes", len(s))
	}
	return fmt.Sprintf("%q", s)
}

// call is one that names a connection and a side; zero says whether what stood beside its error was zero.
type call struct {
	name string
	do   func(n *stream.Net, conn, side int) (e api.Errno, zero bool)
}

func writing(data string) call {
	return call{"Write of " + short(data), func(n *stream.Net, conn, side int) (api.Errno, bool) {
		return n.Write(conn, side, data), true
	}}
}

func arriving(most int) call {
	return call{fmt.Sprint("Arrive of ", most), func(n *stream.Net, conn, side int) (api.Errno, bool) {
		got, e := n.Arrive(conn, side, most)
		return e, got == 0
	}}
}

func reading(most int) call {
	return call{fmt.Sprint("Read of ", most), func(n *stream.Net, conn, side int) (api.Errno, bool) {
		got, e := n.Read(conn, side, most)
		return e, got == ""
	}}
}

// calls are all that name a connection and a side, with right and wrong arguments behind these two.
func calls() []call {
	return []call{
		writing(""), writing("x"), writing(strings.Repeat("x", api.MaxBytes+1)),
		arriving(0), arriving(1), arriving(-1), arriving(math.MinInt), arriving(math.MaxInt),
		reading(0), reading(1), reading(-1), reading(math.MinInt), reading(math.MaxInt),
		{"Close", func(n *stream.Net, conn, side int) (api.Errno, bool) { return n.Close(conn, side), true }},
		{"Ended", func(n *stream.Net, conn, side int) (api.Errno, bool) {
			got, e := n.Ended(conn, side)
			return e, !got
		}},
		{"Pending", func(n *stream.Net, conn, side int) (api.Errno, bool) {
			way, here, e := n.Pending(conn, side)
			return e, way == 0 && here == 0
		}},
	}
}

// refused fails unless each of the calls answers that error, and zero beside it.
func refused(t *testing.T, n *stream.Net, conn, side int, want api.Errno) {
	t.Helper()
	for _, c := range calls() {
		e, zero := c.do(n, conn, side)
		must(t, fmt.Sprintf("%s, %d %d", c.name, conn, side), e, want)
		if !zero {
			t.Errorf("%s, %d %d: something beside the error", c.name, conn, side)
		}
	}
}

// 2.1: New and Dial.

func TestNewHasNoConnection(t *testing.T) {
	for _, side := range []int{-1, 0, 1, 2} {
		for _, conn := range []int{math.MinInt, -1, 0, 1, api.MaxConns, math.MaxInt} {
			refused(t, stream.New(), conn, side, api.ErrNone)
		}
	}
}

func TestDialCountsUp(t *testing.T) {
	n := dialled(t, api.MaxConns)
	for range 3 {
		if conn, e := n.Dial(); conn != 0 || e != api.ErrLong {
			t.Errorf("one connection more: %d %d", conn, e)
		}
	}
	refused(t, n, api.MaxConns, 0, api.ErrNone)
	for conn := range api.MaxConns {
		write(t, n, conn, 0, fmt.Sprint(conn))
		arrive(t, n, conn, 1, 9, len(fmt.Sprint(conn)))
	}
	for conn := range api.MaxConns {
		read(t, n, conn, 1, 9, fmt.Sprint(conn))
	}
}

func TestDialIsOpenOnBothSides(t *testing.T) {
	n := dialled(t, 2)
	for conn := range 2 {
		for side := range 2 {
			pending(t, n, conn, side, 0, 0)
			ended(t, n, conn, side, false)
			arrive(t, n, conn, side, 9, 0)
			read(t, n, conn, side, 9, "")
		}
		for side := range 2 {
			write(t, n, conn, side, "x")
			must(t, "close", n.Close(conn, side), api.OK)
		}
	}
}

func TestDialCountsClosedOnes(t *testing.T) {
	n := dialled(t, 3)
	for conn := range 3 {
		must(t, "close", n.Close(conn, 0), api.OK)
		must(t, "close", n.Close(conn, 1), api.OK)
	}
	for want := 3; want < api.MaxConns; want++ {
		if conn, e := n.Dial(); conn != want || e != api.OK {
			t.Fatalf("dial behind closed ones: %d %d, not %d", conn, e, want)
		}
		must(t, "close", n.Close(want, want%2), api.OK)
	}
	if conn, e := n.Dial(); conn != 0 || e != api.ErrLong {
		t.Errorf("one more than there may be, closed ones among them: %d %d", conn, e)
	}
	must(t, "close", n.Close(api.MaxConns-1, 0), api.OK)
	if conn, e := n.Dial(); conn != 0 || e != api.ErrLong {
		t.Errorf("all but one closed on both sides: %d %d", conn, e)
	}
}

// A connection that is made later leaves the others as they were.
func TestDialKeepsTheOthers(t *testing.T) {
	n := stream.New()
	for conn := range api.MaxConns {
		n.Dial()
		write(t, n, conn, 0, "ab")
		arrive(t, n, conn, 1, 1, 1)
		must(t, "close", n.Close(conn, 1), api.OK)
	}
	for conn := range api.MaxConns {
		pending(t, n, conn, 1, 1, 1)
		pending(t, n, conn, 0, 0, 0)
		ended(t, n, conn, 0, true)
		ended(t, n, conn, 1, false)
		must(t, "write", n.Write(conn, 1, "x"), api.ErrClosed)
	}
}

func TestNetsAreApart(t *testing.T) {
	a, b := dialled(t, 1), dialled(t, 1)
	write(t, a, 0, 0, "x")
	must(t, "close", a.Close(0, 0), api.OK)
	pending(t, b, 0, 1, 0, 0)
	write(t, b, 0, 0, "y")
	a.Dial()
	must(t, "a connection of the other", b.Close(1, 0), api.ErrNone)
}

// 2.1: which connection, and which side.

// stirred has of its connection 0: to side 1, one byte arrived and one on its way; to side 0, the same, and side 1 has closed.
func stirred(t *testing.T, conns int) *stream.Net {
	t.Helper()
	n := dialled(t, conns)
	for side := range 2 {
		write(t, n, 0, side, "ab")
		arrive(t, n, 0, 1-side, 1, 1)
	}
	must(t, "close", n.Close(0, 1), api.OK)
	return n
}

func unstirred(t *testing.T, n *stream.Net) {
	t.Helper()
	for side := range 2 {
		pending(t, n, 0, side, 1, 1)
		ended(t, n, 0, side, false)
	}
	must(t, "write of the closed side", n.Write(0, 1, "x"), api.ErrClosed)
	write(t, n, 0, 0, "c")
	arrive(t, n, 0, 1, 9, 2)
	read(t, n, 0, 1, 9, "abc")
	arrive(t, n, 0, 0, 9, 1)
	read(t, n, 0, 0, 9, "ab")
}

func TestNoSuchConnection(t *testing.T) {
	for _, conns := range []int{1, 2, 7, api.MaxConns} {
		n := stirred(t, conns)
		for _, conn := range []int{math.MinInt, -api.MaxConns, -2, -1, conns, conns + 1, api.MaxConns, math.MaxInt} {
			for _, side := range []int{math.MinInt, -1, 0, 1, 2, math.MaxInt} {
				refused(t, n, conn, side, api.ErrNone)
			}
		}
		write(t, n, conns-1, 0, "")
		unstirred(t, n)
	}
}

func TestNoSuchSide(t *testing.T) {
	for _, conns := range []int{1, 5} {
		n := stirred(t, conns)
		for _, side := range []int{math.MinInt, -2, -1, 2, 3, math.MaxInt} {
			for _, conn := range []int{0, conns - 1} {
				refused(t, n, conn, side, api.ErrRange)
			}
		}
		unstirred(t, n)
	}
}

// 2.2: Write.

func TestWriteGoesToTheOtherSide(t *testing.T) {
	n := dialled(t, 1)
	write(t, n, 0, 0, "ab")
	pending(t, n, 0, 1, 2, 0)
	pending(t, n, 0, 0, 0, 0)
	write(t, n, 0, 1, "xyz")
	pending(t, n, 0, 1, 2, 0)
	pending(t, n, 0, 0, 3, 0)
	write(t, n, 0, 0, "")
	pending(t, n, 0, 1, 2, 0)
	write(t, n, 0, 0, "cd")
	pending(t, n, 0, 1, 4, 0)
	arrive(t, n, 0, 1, 9, 4)
	arrive(t, n, 0, 0, 9, 3)
	read(t, n, 0, 1, 9, "abcd")
	read(t, n, 0, 0, 9, "xyz")
}

func TestWriteAllBytes(t *testing.T) {
	var all []byte
	for c := range 256 {
		all = append(all, byte(c))
	}
	n := dialled(t, 1)
	for side := range 2 {
		write(t, n, 0, side, string(all))
		arrive(t, n, 0, 1-side, 256, 256)
		read(t, n, 0, 1-side, 256, string(all))
	}
}

func TestWriteLength(t *testing.T) {
	whole := strings.Repeat("x", api.MaxBytes)
	for side := range 2 {
		n := dialled(t, 2)
		other := 1 - side
		must(t, "one too many at once", n.Write(0, side, whole+"x"), api.ErrLong)
		pending(t, n, 0, other, 0, 0)
		write(t, n, 0, side, whole)
		must(t, "one more", n.Write(0, side, "y"), api.ErrLong)
		must(t, "many more", n.Write(0, side, whole), api.ErrLong)
		write(t, n, 0, side, "")
		pending(t, n, 0, other, api.MaxBytes, 0)
		write(t, n, 0, other, whole)
		write(t, n, 1, side, whole)
		arrive(t, n, 0, other, api.MaxBytes-1, api.MaxBytes-1)
		must(t, "arrived and on their way together", n.Write(0, side, "y"), api.ErrLong)
		arrive(t, n, 0, other, 1, 1)
		must(t, "all arrived", n.Write(0, side, "y"), api.ErrLong)
		read(t, n, 0, other, 2, "xx")
		must(t, "three where there is room for two", n.Write(0, side, "yyy"), api.ErrLong)
		pending(t, n, 0, other, 0, api.MaxBytes-2)
		write(t, n, 0, side, "y")
		pending(t, n, 0, other, 1, api.MaxBytes-2)
		must(t, "two where there is room for one", n.Write(0, side, "zz"), api.ErrLong)
		write(t, n, 0, side, "z")
		must(t, "one more, behind all", n.Write(0, side, "y"), api.ErrLong)
		arrive(t, n, 0, other, math.MaxInt, 2)
		read(t, n, 0, other, math.MaxInt, whole[2:]+"yz")
		write(t, n, 0, side, whole)
	}
}

// The room is of each direction: what a side has to read takes nothing from what it may write.
func TestWriteRoomOfTheOtherSide(t *testing.T) {
	whole := strings.Repeat("x", api.MaxBytes)
	n := dialled(t, 2)
	write(t, n, 0, 0, whole)
	arrive(t, n, 0, 1, 5, 5)
	write(t, n, 0, 1, whole[1:])
	write(t, n, 0, 1, "y")
	must(t, "the first side", n.Write(0, 0, "y"), api.ErrLong)
	must(t, "the second side", n.Write(0, 1, "y"), api.ErrLong)
	write(t, n, 1, 0, "y")
}

func TestWriteOrderOfErrors(t *testing.T) {
	whole := strings.Repeat("x", api.MaxBytes)
	n := dialled(t, 1)
	write(t, n, 0, 0, whole)
	must(t, "close", n.Close(0, 0), api.OK)
	must(t, "closed and no room", n.Write(0, 0, "y"), api.ErrClosed)
	must(t, "closed and too long", n.Write(0, 0, whole+"y"), api.ErrClosed)
	must(t, "closed and nothing", n.Write(0, 0, ""), api.ErrClosed)
	must(t, "too long of no side", n.Write(0, 2, whole+"y"), api.ErrRange)
	must(t, "too long of no connection", n.Write(1, 2, whole+"y"), api.ErrNone)
	pending(t, n, 0, 1, api.MaxBytes, 0)
	pending(t, n, 0, 0, 0, 0)
}

// 2.2: Arrive.

func TestArriveTheFirst(t *testing.T) {
	n := dialled(t, 1)
	write(t, n, 0, 0, "abcdef")
	arrive(t, n, 0, 1, 0, 0)
	pending(t, n, 0, 1, 6, 0)
	read(t, n, 0, 1, 9, "")
	arrive(t, n, 0, 1, 2, 2)
	pending(t, n, 0, 1, 4, 2)
	arrive(t, n, 0, 1, 1, 1)
	pending(t, n, 0, 1, 3, 3)
	read(t, n, 0, 1, 9, "abc")
	arrive(t, n, 0, 1, 3, 3)
	arrive(t, n, 0, 1, 1, 0)
	write(t, n, 0, 0, "gh")
	arrive(t, n, 0, 1, 3, 2)
	pending(t, n, 0, 1, 0, 5)
	read(t, n, 0, 1, 9, "defgh")
	write(t, n, 0, 1, "ij")
	arrive(t, n, 0, 1, 9, 0)
	arrive(t, n, 0, 0, math.MaxInt, 2)
	read(t, n, 0, 0, 9, "ij")
}

func TestMostBelowZero(t *testing.T) {
	n := stirred(t, 2)
	for _, most := range []int{-1, -2, math.MinInt} {
		for _, c := range []call{arriving(most), reading(most)} {
			for _, conn := range []int{0, 1} {
				for side := range 2 {
					e, zero := c.do(n, conn, side)
					must(t, c.name, e, api.ErrRange)
					if !zero {
						t.Errorf("%s: something beside the error", c.name)
					}
				}
			}
			e, _ := c.do(n, 2, 0)
			must(t, c.name+" of no connection", e, api.ErrNone)
		}
	}
	unstirred(t, n)
}

// 2.2: Read.

func TestReadTakesTheFirst(t *testing.T) {
	n := dialled(t, 1)
	write(t, n, 0, 0, "abcdef")
	read(t, n, 0, 1, 9, "")
	arrive(t, n, 0, 1, 4, 4)
	read(t, n, 0, 1, 0, "")
	pending(t, n, 0, 1, 2, 4)
	read(t, n, 0, 1, 1, "a")
	pending(t, n, 0, 1, 2, 3)
	read(t, n, 0, 0, 9, "")
	read(t, n, 0, 1, 2, "bc")
	read(t, n, 0, 1, 2, "d")
	read(t, n, 0, 1, 2, "")
	pending(t, n, 0, 1, 2, 0)
	arrive(t, n, 0, 1, 1, 1)
	read(t, n, 0, 1, math.MaxInt, "e")
	write(t, n, 0, 0, "gh")
	arrive(t, n, 0, 1, math.MaxInt, 3)
	read(t, n, 0, 1, 3, "fgh")
	pending(t, n, 0, 1, 0, 0)
}

// R4: an answer stays what it was, whatever comes behind it.
func TestReadAnswersStay(t *testing.T) {
	n := dialled(t, 1)
	write(t, n, 0, 0, "abcdef")
	arrive(t, n, 0, 1, 9, 6)
	first, _ := n.Read(0, 1, 3)
	second, _ := n.Read(0, 1, 3)
	for range 20 {
		write(t, n, 0, 0, "uvwxyz")
		arrive(t, n, 0, 1, 9, 6)
		read(t, n, 0, 1, 9, "uvwxyz")
	}
	if first != "abc" || second != "def" {
		t.Errorf("answers have become %q and %q", first, second)
	}
}

// 2.3: Close.

func TestCloseOfOneSide(t *testing.T) {
	for side := range 2 {
		other := 1 - side
		n := dialled(t, 2)
		write(t, n, 0, side, "abc")
		write(t, n, 0, other, "xyz")
		arrive(t, n, 0, side, 1, 1)
		must(t, "close", n.Close(0, side), api.OK)
		must(t, "close again", n.Close(0, side), api.ErrClosed)
		must(t, "write behind a close", n.Write(0, side, "d"), api.ErrClosed)
		must(t, "write of nothing behind a close", n.Write(0, side, ""), api.ErrClosed)
		pending(t, n, 0, other, 3, 0)
		arrive(t, n, 0, other, 2, 2)
		read(t, n, 0, other, 9, "ab")
		arrive(t, n, 0, other, 2, 1)
		read(t, n, 0, other, 9, "c")
		write(t, n, 0, other, "uv")
		pending(t, n, 0, side, 4, 1)
		arrive(t, n, 0, side, 9, 4)
		read(t, n, 0, side, 9, "xyzuv")
		must(t, "close again", n.Close(0, side), api.ErrClosed)
		write(t, n, 1, side, "q")
		must(t, "close of the other side", n.Close(0, other), api.OK)
		must(t, "close of the other side again", n.Close(0, other), api.ErrClosed)
		must(t, "write of the other side", n.Write(0, other, "w"), api.ErrClosed)
		must(t, "close of another connection", n.Close(1, side), api.OK)
	}
}

func TestCloseLeavesWhatIsPending(t *testing.T) {
	n := dialled(t, 1)
	for side := range 2 {
		write(t, n, 0, side, "abcd")
		arrive(t, n, 0, 1-side, 1, 1)
	}
	for side := range 2 {
		must(t, "close", n.Close(0, side), api.OK)
		pending(t, n, 0, 0, 3, 1)
		pending(t, n, 0, 1, 3, 1)
	}
	for side := range 2 {
		read(t, n, 0, side, 9, "a")
		arrive(t, n, 0, side, 9, 3)
		read(t, n, 0, side, 9, "bcd")
	}
}

// 2.3: Ended.

func TestEnded(t *testing.T) {
	for side := range 2 {
		other := 1 - side
		n := dialled(t, 2)
		ended(t, n, 0, side, false)
		write(t, n, 0, other, "ab")
		ended(t, n, 0, side, false)
		must(t, "close", n.Close(0, other), api.OK)
		ended(t, n, 0, side, false) // both on their way
		arrive(t, n, 0, side, 1, 1)
		ended(t, n, 0, side, false) // one arrived, one on its way
		read(t, n, 0, side, 1, "a")
		ended(t, n, 0, side, false) // one on its way
		arrive(t, n, 0, side, 1, 1)
		ended(t, n, 0, side, false) // one arrived
		read(t, n, 0, side, 0, "")
		ended(t, n, 0, side, false)
		read(t, n, 0, side, 9, "b")
		ended(t, n, 0, side, true)
		ended(t, n, 0, side, true)
		read(t, n, 0, side, 9, "")
		ended(t, n, 0, side, true)
		ended(t, n, 0, other, false)
		write(t, n, 0, side, "x")
		ended(t, n, 0, side, true) // what it writes itself does not matter
		must(t, "close", n.Close(0, side), api.OK)
		ended(t, n, 0, side, true)
		ended(t, n, 0, other, false)
		arrive(t, n, 0, other, 1, 1)
		read(t, n, 0, other, 1, "x")
		ended(t, n, 0, other, true)
		ended(t, n, 1, side, false)
		ended(t, n, 1, other, false)
	}
}

func TestEndedWithoutBytes(t *testing.T) {
	for side := range 2 {
		n := dialled(t, 1)
		must(t, "close", n.Close(0, side), api.OK)
		ended(t, n, 0, side, false)
		ended(t, n, 0, 1-side, true)
		must(t, "close", n.Close(0, 1-side), api.OK)
		ended(t, n, 0, side, true)
		ended(t, n, 0, 1-side, true)
	}
}

// 2.3: to ask changes nothing.

func TestAskingChangesNothing(t *testing.T) {
	n := stirred(t, 1)
	for range 3 {
		for side := range 2 {
			pending(t, n, 0, side, 1, 1)
			ended(t, n, 0, side, false)
		}
	}
	unstirred(t, n)
}

// The chapter's examples.

func TestExamples(t *testing.T) {
	n := dialled(t, 1)
	write(t, n, 0, 0, "abc")
	read(t, n, 0, 1, 9, "")
	arrive(t, n, 0, 1, 2, 2)
	read(t, n, 0, 1, 1, "a")
	pending(t, n, 0, 1, 1, 1)
	must(t, "close", n.Close(0, 0), api.OK)
	ended(t, n, 0, 1, false)
	arrive(t, n, 0, 1, 9, 1)
	read(t, n, 0, 1, 9, "bc")
	ended(t, n, 0, 1, true)
	must(t, "Write 0 0 x", n.Write(0, 0, "x"), api.ErrClosed)
	must(t, "Write 0 1 y", n.Write(0, 1, "y"), api.OK)
	must(t, "Write 1 0 x", n.Write(1, 0, "x"), api.ErrNone)
	must(t, "Write 0 2 x", n.Write(0, 2, "x"), api.ErrRange)
}
