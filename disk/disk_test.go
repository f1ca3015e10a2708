package disk_test

import (
	"fmt"
	"math"
	"slices"
	"strings"
	"testing"

	"hopper/api"
	"hopper/disk"
)

// must fails when a call does not answer what it should.
func must(t *testing.T, what string, got, want api.Errno) {
	t.Helper()
	if got != want {
		t.Errorf("%s: %d, not %d", what, got, want)
	}
}

// has fails when the disk's files are others than those of want.
func has(t *testing.T, what string, d *disk.Disk, want map[string]string) {
	t.Helper()
	var names []string
	for name := range want {
		names = append(names, name)
	}
	slices.Sort(names)
	if got := d.Names(); !slices.Equal(got, names) {
		t.Errorf("%s: names %q, not %q", what, got, names)
	}
	for _, name := range names {
		if s, e := d.Read(name); s != want[name] || e != api.OK {
			t.Errorf("%s: %s has %s (%d), not %s", what, name, short(s), e, short(want[name]))
		}
	}
}

func short(s string) string {
	if len(s) > 40 {
		return fmt.Sprintf("%d bytes", len(s))
	}
	return fmt.Sprintf("%q", s)
}

// laid is a disk with the file a: its first bytes synced, the others not.
func laid(safe, tail string) *disk.Disk {
	d := disk.New()
	d.Append("a", safe)
	d.Sync("a")
	d.Append("a", tail)
	return d
}

// putDown takes a disk down by a change that is not made.
func putDown(t *testing.T, d *disk.Disk) {
	t.Helper()
	must(t, "fuse", d.Fuse(0), api.OK)
	must(t, "change that brings it down", d.Append("a", ""), api.ErrDown)
}

// filled is a disk with as many files as there may be.
func filled() *disk.Disk {
	d := disk.New()
	for i := range api.MaxFiles {
		d.Append(fmt.Sprintf("f%d", i), "x")
	}
	return d
}

// 1.1: a new disk.

func TestNew(t *testing.T) {
	d := disk.New()
	has(t, "new", d, nil)
	if s, e := d.Read("a"); s != "" || e != api.ErrNone {
		t.Errorf("read of a new disk: %q %d", s, e)
	}
	for i := range 3000 {
		if e := d.Append("a", "x"); e != api.OK {
			t.Fatalf("change %d of a disk without a fuse: %d", i, e)
		}
	}
	has(t, "another new one", disk.New(), nil)
}

// 1.1: names.

// named are the calls that take names, with what they answer of a disk without files.
func named(name string) []func(d *disk.Disk) (string, api.Errno, api.Errno) {
	type call = func(d *disk.Disk) (string, api.Errno, api.Errno)
	return []call{
		func(d *disk.Disk) (string, api.Errno, api.Errno) { return "Sync", d.Sync(name), api.ErrNone },
		func(d *disk.Disk) (string, api.Errno, api.Errno) { return "Remove", d.Remove(name), api.ErrNone },
		func(d *disk.Disk) (string, api.Errno, api.Errno) {
			_, e := d.Read(name)
			return "Read", e, api.ErrNone
		},
		func(d *disk.Disk) (string, api.Errno, api.Errno) {
			return "Rename from", d.Rename(name, "ok"), api.ErrNone
		},
		func(d *disk.Disk) (string, api.Errno, api.Errno) {
			return "Rename to", d.Rename("ok", name), api.ErrNone
		},
		func(d *disk.Disk) (string, api.Errno, api.Errno) { return "Append", d.Append(name, "x"), api.OK },
	}
}

func tryName(t *testing.T, name string, may bool) {
	t.Helper()
	d := disk.New()
	for _, call := range named(name) {
		what, got, want := call(d)
		if !may {
			want = api.ErrName
		}
		must(t, fmt.Sprintf("%s of %q", what, name), got, want)
	}
	if may {
		has(t, "a name that may be", d, map[string]string{name: "x"})
	} else {
		has(t, "a name that may not be", d, nil)
	}
}

func TestNamesByLength(t *testing.T) {
	for n := range 2*api.MaxName + 2 {
		tryName(t, strings.Repeat("a", n), n >= 1 && n <= api.MaxName)
	}
	tryName(t, strings.Repeat("a", api.MaxBytes), false)
}

func TestNamesByBytes(t *testing.T) {
	for c := range 256 {
		b := string([]byte{byte(c)})
		may := strings.Contains("abcdefghijklmnopqrstuvwxyz0123456789.", b)
		for _, name := range []string{b, b + "a", "a" + b, "a" + b + "a", strings.Repeat("a", api.MaxName-1) + b} {
			tryName(t, name, may)
		}
	}
	for _, name := range []string{"..", "...", ".a", "0", "a.0z", "q9.log"} {
		tryName(t, name, true)
	}
	for _, name := range []string{"é", "a\u0430", "\xff\xfe", "a\n", "a/b", "log-1", "log_1"} {
		tryName(t, name, false)
	}
}

func TestNameComesFirst(t *testing.T) {
	long := strings.Repeat("x", api.MaxBytes+1)
	d := filled()
	must(t, "Append, name and length", d.Append("A", long), api.ErrName)
	must(t, "Append, name and room", d.Append("A", ""), api.ErrName)
	must(t, "Rename, names ahead of what is there", d.Rename("none", "B"), api.ErrName)
	must(t, "Rename, the first", d.Rename("A", "B"), api.ErrName)
	must(t, "Rename of a file that is there", d.Rename("f0", "B"), api.ErrName)
	must(t, "Fuse", d.Fuse(0), api.OK)
	for _, call := range named("A") {
		what, got, _ := call(d)
		must(t, what+" with a fuse of 0", got, api.ErrName)
	}
	must(t, "Remove at the fuse's end", d.Remove("f0"), api.ErrDown)
	for _, call := range named("A") {
		what, got, _ := call(d)
		must(t, what+" when down", got, api.ErrName)
	}
	if got := len(d.Names()); got != api.MaxFiles {
		t.Errorf("%d files", got)
	}
}

// 1.1: Append.

func TestAppendAtTheEnd(t *testing.T) {
	d := disk.New()
	must(t, "append", d.Append("a", "x\x00"), api.OK)
	must(t, "append", d.Append("b", ""), api.OK)
	must(t, "append", d.Append("a", "\xff yz"), api.OK)
	must(t, "append", d.Append("a", ""), api.OK)
	has(t, "appended", d, map[string]string{"a": "x\x00\xff yz", "b": ""})
	must(t, "append", d.Append("b", "q"), api.OK)
	has(t, "appended", d, map[string]string{"a": "x\x00\xff yz", "b": "q"})
}

func TestAppendIsNotSafe(t *testing.T) {
	d := disk.New()
	d.Append("a", "xyz")
	must(t, "crash", d.Crash([]int{0}), api.OK)
	has(t, "a new file torn", d, map[string]string{"a": ""})
	d = laid("x", "yz")
	d.Append("a", "u")
	d.Crash([]int{-1})
	has(t, "a grown file torn", d, map[string]string{"a": "x"})
}

func TestAppendLength(t *testing.T) {
	whole := strings.Repeat("x", api.MaxBytes)
	d := disk.New()
	must(t, "one byte too many, new", d.Append("a", whole+"x"), api.ErrLong)
	has(t, "nothing made", d, nil)
	must(t, "just as many, new", d.Append("a", whole), api.OK)
	must(t, "none more", d.Append("a", ""), api.OK)
	must(t, "one more", d.Append("a", "x"), api.ErrLong)
	must(t, "many more", d.Append("a", whole), api.ErrLong)
	must(t, "another file", d.Append("b", whole[1:]), api.OK)
	must(t, "two more", d.Append("b", "yz"), api.ErrLong)
	has(t, "as before", d, map[string]string{"a": whole, "b": whole[1:]})
	must(t, "one more", d.Append("b", "y"), api.OK)
	has(t, "just full", d, map[string]string{"a": whole, "b": whole[1:] + "y"})
	must(t, "sync", d.Sync("a"), api.OK)
	must(t, "crash", d.Crash([]int{api.MaxBytes - 2}), api.OK)
	must(t, "room behind a crash", d.Append("b", "uv"), api.OK)
	must(t, "no room behind it", d.Append("b", "w"), api.ErrLong)
	must(t, "safe bytes count", d.Append("a", "w"), api.ErrLong)
	has(t, "in the end", d, map[string]string{"a": whole, "b": whole[2:] + "uv"})
}

func TestAppendFiles(t *testing.T) {
	d := disk.New()
	for i := range api.MaxFiles {
		must(t, "a file that there is room for", d.Append(fmt.Sprintf("f%d", i), "x"), api.OK)
	}
	must(t, "one file more", d.Append("more", "x"), api.ErrLong)
	must(t, "one file more, without bytes", d.Append("more", ""), api.ErrLong)
	must(t, "a file that is there", d.Append("f7", "y"), api.OK)
	must(t, "a new name for one", d.Rename("f8", "more"), api.OK)
	must(t, "its old name is no room", d.Append("f8", "x"), api.ErrLong)
	must(t, "remove", d.Remove("f9"), api.OK)
	must(t, "room behind a remove", d.Append("f8", "x"), api.OK)
	must(t, "no room again", d.Append("f9", "x"), api.ErrLong)
	must(t, "one in the place of another", d.Rename("f8", "f7"), api.OK)
	must(t, "room behind that", d.Append("f9", "z"), api.OK)
	must(t, "a crash makes no room", d.Crash(nil), api.OK)
	must(t, "one file more", d.Append("f8", ""), api.ErrLong)
	if got := len(d.Names()); got != api.MaxFiles {
		t.Errorf("%d files", got)
	}
}

func TestAppendLongComesAheadOfDown(t *testing.T) {
	long := strings.Repeat("x", api.MaxBytes+1)
	d := filled()
	d.Fuse(1)
	must(t, "too many bytes", d.Append("f1", long), api.ErrLong)
	must(t, "too many files", d.Append("more", ""), api.ErrLong)
	must(t, "the change that is left", d.Append("f1", "y"), api.OK)
	must(t, "too many bytes, none left", d.Append("f1", long), api.ErrLong)
	d.Fuse(1)
	must(t, "still up", d.Append("f1", "y"), api.OK)
	must(t, "Remove at the fuse's end", d.Remove("f0"), api.ErrDown)
	must(t, "too many bytes, down", d.Append("f1", long), api.ErrLong)
	must(t, "too many files, down", d.Append("more", ""), api.ErrLong)
	must(t, "down", d.Append("f1", "z"), api.ErrDown)
	if s, _ := d.Read("f1"); s != "xyy" {
		t.Errorf("f1 has %q", short(s))
	}
}

// 1.2: Sync, Rename, Remove.

func TestSync(t *testing.T) {
	d := disk.New()
	d.Append("a", "xy")
	d.Append("b", "uv")
	must(t, "sync", d.Sync("a"), api.OK)
	must(t, "sync of none", d.Sync("c"), api.ErrNone)
	has(t, "synced", d, map[string]string{"a": "xy", "b": "uv"})
	d.Append("a", "z")
	must(t, "crash", d.Crash(nil), api.OK)
	has(t, "crashed", d, map[string]string{"a": "xy", "b": ""})
	d.Append("a", "z")
	must(t, "sync", d.Sync("a"), api.OK)
	must(t, "sync of what is safe", d.Sync("a"), api.OK)
	must(t, "sync of no bytes", d.Sync("b"), api.OK)
	d.Crash([]int{-1, -1})
	has(t, "crashed again", d, map[string]string{"a": "xyz", "b": ""})
}

func TestRename(t *testing.T) {
	d := laid("x", "yz")
	d.Append("b", "uvw")
	d.Sync("b")
	must(t, "rename of none", d.Rename("c", "a"), api.ErrNone)
	must(t, "rename of none to itself", d.Rename("c", "c"), api.ErrNone)
	has(t, "as before", d, map[string]string{"a": "xyz", "b": "uvw"})
	must(t, "rename", d.Rename("a", "b"), api.OK)
	has(t, "renamed", d, map[string]string{"b": "xyz"})
	must(t, "the old name", d.Rename("a", "b"), api.ErrNone)
	must(t, "a new file of the old name", d.Append("a", "q"), api.OK)
	must(t, "a byte more", d.Append("b", "r"), api.OK)
	has(t, "two files", d, map[string]string{"a": "q", "b": "xyzr"})
	d.Crash([]int{0, 1})
	has(t, "the safe part and the tail went along", d, map[string]string{"a": "", "b": "xy"})
	must(t, "rename to a free name", d.Rename("b", "c"), api.OK)
	has(t, "renamed again", d, map[string]string{"a": "", "c": "xy"})
}

func TestRenameSafeOntoTail(t *testing.T) {
	d := laid("xyz", "")
	d.Append("b", "uvwuvw")
	must(t, "rename", d.Rename("a", "b"), api.OK)
	d.Crash([]int{-1})
	has(t, "all safe", d, map[string]string{"b": "xyz"})
}

func TestRenameToItself(t *testing.T) {
	d := laid("x", "yz")
	must(t, "rename", d.Rename("a", "a"), api.OK)
	has(t, "as before", d, map[string]string{"a": "xyz"})
	d.Crash([]int{1})
	has(t, "the tail is as long as before", d, map[string]string{"a": "xy"})
}

func TestRemove(t *testing.T) {
	d := laid("xyz", "uv")
	d.Append("b", "q")
	must(t, "remove of none", d.Remove("c"), api.ErrNone)
	must(t, "remove", d.Remove("a"), api.OK)
	must(t, "remove again", d.Remove("a"), api.ErrNone)
	must(t, "sync of what is removed", d.Sync("a"), api.ErrNone)
	has(t, "removed", d, map[string]string{"b": "q"})
	if s, e := d.Read("a"); s != "" || e != api.ErrNone {
		t.Errorf("read of what is removed: %q %d", s, e)
	}
	must(t, "made anew", d.Append("a", "rst"), api.OK)
	has(t, "made anew", d, map[string]string{"a": "rst", "b": "q"})
	d.Crash([]int{1, 1})
	has(t, "nothing of it was safe", d, map[string]string{"a": "r", "b": "q"})
	must(t, "remove", d.Remove("b"), api.OK)
	d.Crash(nil)
	has(t, "names are not torn", d, map[string]string{"a": "r"})
}

func TestNoneComesAheadOfDown(t *testing.T) {
	d := laid("x", "")
	putDown(t, d)
	must(t, "sync", d.Sync("b"), api.ErrNone)
	must(t, "rename", d.Rename("b", "a"), api.ErrNone)
	must(t, "rename to itself", d.Rename("b", "b"), api.ErrNone)
	must(t, "remove", d.Remove("b"), api.ErrNone)
	_, e := d.Read("b")
	must(t, "read", e, api.ErrNone)
	has(t, "as before", d, map[string]string{"a": "x"})
}

// 1.3: Read, Names.

func TestReadWhenDown(t *testing.T) {
	d := laid("x", "yz")
	putDown(t, d)
	has(t, "down", d, map[string]string{"a": "xyz"})
	if s, e := d.Read("A"); s != "" || e != api.ErrName {
		t.Errorf("read: %q %d", s, e)
	}
	if s, e := d.Read("b"); s != "" || e != api.ErrNone {
		t.Errorf("read: %q %d", s, e)
	}
}

func TestReadStays(t *testing.T) {
	d := laid("xyz", "uvw")
	s, _ := d.Read("a")
	d.Crash([]int{1})
	d.Append("a", "12345678")
	if s != "xyzuvw" {
		t.Errorf("what was read became %q", s)
	}
}

func TestNamesRise(t *testing.T) {
	want := []string{".", "..", ".a", "0", "00", "1", "10", "2", "9", "a", "a.", "a0", "aa", "b", "z"}
	for turn := range len(want) {
		d := disk.New()
		for i := range want {
			d.Append(want[(i*7+turn)%len(want)], "")
		}
		if got := d.Names(); !slices.Equal(got, want) {
			t.Errorf("names %q", got)
		}
	}
}

func TestNamesAreNew(t *testing.T) {
	d := disk.New()
	d.Append("a", "x")
	d.Append("b", "y")
	one, two := d.Names(), d.Names()
	one[0] = "z"
	one = append(one, "q")
	_ = append(one[:1], "r")
	if !slices.Equal(two, []string{"a", "b"}) {
		t.Errorf("another answer became %q", two)
	}
	has(t, "as before", d, map[string]string{"a": "x", "b": "y"})
}

// 1.3: Fuse.

func TestFuseRange(t *testing.T) {
	for _, n := range []int{-1, -2, math.MinInt} {
		d := disk.New()
		must(t, "below 0", d.Fuse(n), api.ErrRange)
		must(t, "no fuse", d.Append("a", "x"), api.OK)
		must(t, "no fuse", d.Append("a", "x"), api.OK)
		d.Fuse(1)
		must(t, "below 0", d.Fuse(n), api.ErrRange)
		must(t, "the old fuse", d.Append("a", "x"), api.OK)
		must(t, "the old fuse", d.Append("a", "x"), api.ErrDown)
		must(t, "below 0, down", d.Fuse(n), api.ErrRange)
		has(t, "in the end", d, map[string]string{"a": "xxx"})
	}
	d := disk.New()
	must(t, "the greatest", d.Fuse(math.MaxInt), api.OK)
	for range 3 {
		must(t, "a change", d.Append("a", "x"), api.OK)
	}
}

func TestFuseCounts(t *testing.T) {
	for n := range 70 {
		d := disk.New()
		must(t, "fuse", d.Fuse(n), api.OK)
		made := 0
		for d.Append("a", "x") == api.OK && made <= n {
			made++
		}
		if made != n {
			t.Errorf("a fuse of %d made %d changes", n, made)
		}
		must(t, "down", d.Append("a", "x"), api.ErrDown)
		want := map[string]string{}
		if n > 0 {
			want["a"] = strings.Repeat("x", n)
		}
		has(t, "what was made", d, want)
	}
}

func TestFuseIsSetAnew(t *testing.T) {
	d := disk.New()
	d.Fuse(5)
	d.Fuse(1)
	must(t, "the later fuse", d.Append("a", "x"), api.OK)
	d.Fuse(2)
	must(t, "not down before the next change", d.Append("a", "x"), api.OK)
	must(t, "the last one", d.Append("a", "x"), api.OK)
	must(t, "down", d.Append("a", "x"), api.ErrDown)
	must(t, "fuse of a disk that is down", d.Fuse(9), api.OK)
	must(t, "stays down", d.Append("a", "x"), api.ErrDown)
	must(t, "stays down", d.Sync("a"), api.ErrDown)
	d.Crash([]int{3})
	for range 20 {
		must(t, "no fuse behind a crash", d.Append("a", ""), api.OK)
	}
	has(t, "in the end", d, map[string]string{"a": "xxx"})
}

// changes are all the kinds of changes, of a disk that has a (x safe, yz behind it) and b (uv safe).
var changes = []struct {
	what  string
	make  func(d *disk.Disk) api.Errno
	files map[string]string // behind it, and a crash that draws 2s
}{
	{"Append", func(d *disk.Disk) api.Errno { return d.Append("a", "q") }, map[string]string{"a": "xyz", "b": "uv"}},
	{"Append of nothing", func(d *disk.Disk) api.Errno { return d.Append("a", "") }, map[string]string{"a": "xyz", "b": "uv"}},
	{"Append of a new file", func(d *disk.Disk) api.Errno { return d.Append("c", "q") }, map[string]string{"a": "xyz", "b": "uv", "c": ""}},
	{"Append of a new file without bytes", func(d *disk.Disk) api.Errno { return d.Append("c", "") }, map[string]string{"a": "xyz", "b": "uv", "c": ""}},
	{"Sync", func(d *disk.Disk) api.Errno { return d.Sync("a") }, map[string]string{"a": "xyz", "b": "uv"}},
	{"Sync of what is safe", func(d *disk.Disk) api.Errno { return d.Sync("b") }, map[string]string{"a": "xyz", "b": "uv"}},
	{"Rename", func(d *disk.Disk) api.Errno { return d.Rename("a", "c") }, map[string]string{"b": "uv", "c": "xyz"}},
	{"Rename over another", func(d *disk.Disk) api.Errno { return d.Rename("b", "a") }, map[string]string{"a": "uv"}},
	{"Rename to itself", func(d *disk.Disk) api.Errno { return d.Rename("a", "a") }, map[string]string{"a": "xyz", "b": "uv"}},
	{"Remove", func(d *disk.Disk) api.Errno { return d.Remove("a") }, map[string]string{"b": "uv"}},
}

func laidForChanges() *disk.Disk {
	d := laid("x", "yz")
	d.Append("b", "uv")
	d.Sync("b")
	return d
}

func TestEachChangeTakesOne(t *testing.T) {
	for _, c := range changes {
		d := laidForChanges()
		d.Fuse(2)
		must(t, c.what, c.make(d), api.OK)
		must(t, "the second of "+c.what, d.Append("z", ""), api.OK)
		must(t, "the third of "+c.what, d.Append("z", "q"), api.ErrDown)
		d.Crash([]int{2, 2, 2})
		c.files["z"] = ""
		has(t, c.what, d, c.files)
		delete(c.files, "z")
	}
}

func TestNoChangeIsMadeWhenDown(t *testing.T) {
	for _, c := range changes {
		for _, first := range changes {
			d := laidForChanges()
			d.Fuse(0)
			must(t, first.what+" at a fuse of 0", first.make(d), api.ErrDown)
			must(t, c.what+" when down", c.make(d), api.ErrDown)
			has(t, c.what+" when down", d, map[string]string{"a": "xyz", "b": "uv"})
			d.Crash([]int{1})
			has(t, c.what+" when down, and a crash", d, map[string]string{"a": "xy", "b": "uv"})
			must(t, "up again", d.Append("a", "q"), api.OK)
		}
	}
}

func TestWhatTakesNothingOfTheFuse(t *testing.T) {
	long := strings.Repeat("x", api.MaxBytes)
	d := laid("x", "yz")
	d.Fuse(1)
	for range 2 {
		d.Read("a")
		d.Read("b")
		d.Names()
		must(t, "name", d.Append("A", "x"), api.ErrName)
		must(t, "length", d.Append("a", long), api.ErrLong)
		must(t, "none", d.Sync("b"), api.ErrNone)
		must(t, "none", d.Rename("b", "a"), api.ErrNone)
		must(t, "none", d.Remove("b"), api.ErrNone)
		must(t, "range", d.Fuse(-1), api.ErrRange)
		must(t, "draws", d.Crash(make([]int, api.MaxItems+1)), api.ErrLong)
	}
	must(t, "the change that is left", d.Append("a", "q"), api.OK)
	must(t, "none, and none is left", d.Sync("b"), api.ErrNone)
	must(t, "length, and none is left", d.Append("a", long), api.ErrLong)
	d.Fuse(1)
	must(t, "a call that is refused does not bring it down", d.Append("a", "r"), api.OK)
	must(t, "the next change does", d.Append("a", "s"), api.ErrDown)
	has(t, "in the end", d, map[string]string{"a": "xyzqr"})
}

// 1.4: Crash.

func TestCrashDraws(t *testing.T) {
	for m := range 6 {
		tail := "abcde"[:m]
		for draw := -3; draw <= 3*m+4; draw++ {
			keep := 0
			if draw > 0 {
				keep = draw % (m + 1)
			}
			d := laid("x", tail)
			must(t, "crash", d.Crash([]int{draw}), api.OK)
			has(t, fmt.Sprintf("draw %d of %d", draw, m), d, map[string]string{"a": "x" + tail[:keep]})
		}
	}
}

func TestCrashDrawsAtTheEnds(t *testing.T) {
	for draw, want := range map[int]string{
		math.MinInt:     "x",
		math.MinInt + 1: "x",
		math.MaxInt:     "xyzu"[:1+math.MaxInt%4],
		math.MaxInt - 1: "xyzu"[:1+(math.MaxInt-1)%4],
	} {
		d := laid("x", "yzu")
		must(t, "crash", d.Crash([]int{draw}), api.OK)
		has(t, fmt.Sprintf("draw %d", draw), d, map[string]string{"a": want})
	}
	whole := strings.Repeat("x", api.MaxBytes)
	for draw, want := range map[int]int{api.MaxBytes: api.MaxBytes, api.MaxBytes + 1: 0, api.MaxBytes - 1: api.MaxBytes - 1} {
		d := laid("", whole)
		d.Crash([]int{draw})
		has(t, fmt.Sprintf("draw %d", draw), d, map[string]string{"a": whole[:want]})
	}
}

// fourFiles has tails behind a, d and e; b is safe, c has no bytes.
func fourFiles() *disk.Disk {
	d := disk.New()
	d.Append("e", "opq")
	d.Append("d", "k")
	d.Sync("d")
	d.Append("d", "lmn")
	d.Append("c", "")
	d.Append("b", "hij")
	d.Sync("b")
	d.Append("a", "efg")
	return d
}

func TestCrashDrawsByNames(t *testing.T) {
	for _, c := range []struct {
		draws   []int
		a, d, e string
	}{
		{nil, "", "k", ""},
		{[]int{}, "", "k", ""},
		{[]int{1}, "e", "k", ""},
		{[]int{1, 2}, "e", "klm", ""},
		{[]int{1, 2, 3}, "e", "klm", "opq"},
		{[]int{3, 2, 1}, "efg", "klm", "o"},
		{[]int{4, 5, 6}, "", "kl", "op"},
		{[]int{-1, 3, -2}, "", "klmn", ""},
		{[]int{0, 0, 2, 3, 3}, "", "k", "op"},
	} {
		d := fourFiles()
		draws := slices.Clone(c.draws)
		must(t, "crash", d.Crash(draws), api.OK)
		has(t, fmt.Sprint(c.draws), d, map[string]string{"a": c.a, "b": "hij", "c": "", "d": c.d, "e": c.e})
		if !slices.Equal(draws, c.draws) {
			t.Errorf("draws %v became %v", c.draws, draws)
		}
	}
}

func TestCrashLeavesWhatLiesBehindTheDraws(t *testing.T) {
	room := []int{1, 2, 3, 3}
	d := fourFiles()
	must(t, "crash", d.Crash(room[:1]), api.OK)
	has(t, "one draw", d, map[string]string{"a": "e", "b": "hij", "c": "", "d": "k", "e": ""})
	if !slices.Equal(room, []int{1, 2, 3, 3}) {
		t.Errorf("the room became %v", room)
	}
}

func TestCrashManyDraws(t *testing.T) {
	draws := make([]int, api.MaxItems+1)
	draws[0] = 2
	d := laid("x", "yz")
	must(t, "too many", d.Crash(draws), api.ErrLong)
	has(t, "as before", d, map[string]string{"a": "xyz"})
	must(t, "far too many", d.Crash(make([]int, 3*api.MaxItems)), api.ErrLong)
	must(t, "just as many", d.Crash(draws[:api.MaxItems]), api.OK)
	has(t, "all kept", d, map[string]string{"a": "xyz"})
	must(t, "of a disk without files", disk.New().Crash(draws[:api.MaxItems]), api.OK)

	d = laid("x", "yz")
	must(t, "too many", d.Crash(draws), api.ErrLong)
	must(t, "none", d.Crash([]int{-1}), api.OK)
	has(t, "the tail had stayed a tail", d, map[string]string{"a": "x"})
}

func TestCrashRefusedKeepsFuseAndDown(t *testing.T) {
	many := make([]int, api.MaxItems+1)
	d := laid("x", "")
	d.Fuse(1)
	must(t, "too many", d.Crash(many), api.ErrLong)
	must(t, "the change that is left", d.Append("a", "y"), api.OK)
	must(t, "the fuse stayed", d.Append("a", "z"), api.ErrDown)
	must(t, "too many", d.Crash(many), api.ErrLong)
	must(t, "still down", d.Append("a", "z"), api.ErrDown)
	has(t, "in the end", d, map[string]string{"a": "xy"})
}

func TestCrashTakesTheFuseAway(t *testing.T) {
	for n := range 3 {
		d := disk.New()
		d.Fuse(n)
		must(t, "crash of a disk that is up", d.Crash(nil), api.OK)
		for range 10 {
			must(t, "no fuse", d.Append("a", "x"), api.OK)
		}
		d.Fuse(0)
		must(t, "a new fuse", d.Append("a", "x"), api.ErrDown)
		must(t, "crash of a disk that is down", d.Crash([]int{10}), api.OK)
		for range 10 {
			must(t, "up, without a fuse", d.Append("a", "y"), api.OK)
		}
		has(t, "in the end", d, map[string]string{"a": strings.Repeat("x", 10) + strings.Repeat("y", 10)})
	}
}

// 1.5: what is safe stays, and behind a crash all is safe.

func TestSafeStays(t *testing.T) {
	for _, safe := range []string{"", "s", "safe"} {
		for _, tail := range []string{"", "t", "tail"} {
			for draw := -2; draw < 8; draw++ {
				d := laid(safe, tail)
				d.Crash([]int{draw})
				s, e := d.Read("a")
				must(t, "read", e, api.OK)
				if !strings.HasPrefix(s, safe) || !strings.HasPrefix(safe+tail, s) {
					t.Errorf("%q and %q became %q", safe, tail, s)
				}
				for again := -2; again < 8; again++ {
					d.Crash([]int{again, again})
					has(t, "a crash behind a crash", d, map[string]string{"a": s})
				}
				d.Append("a", "more")
				d.Crash([]int{-1})
				has(t, "more, and a crash", d, map[string]string{"a": s})
			}
		}
	}
}

// 1.6: a file put in the place of another one is there whole, or not at all.

func TestPutInThePlace(t *testing.T) {
	const old, fresh = "the old one", "a new one, of more bytes"
	for fuse := range 6 {
		for draw := -1; draw <= len(fresh)+1; draw++ {
			d := laid(old, "")
			d.Fuse(fuse)
			d.Append("a.new", fresh[:9])
			d.Append("a.new", fresh[9:])
			d.Sync("a.new")
			e := d.Rename("a.new", "a")
			d.Crash([]int{draw, draw})
			want := old
			if fuse >= 4 {
				want = fresh
			}
			if s, _ := d.Read("a"); s != want {
				t.Errorf("fuse %d, draw %d: %q", fuse, draw, s)
			}
			if (e == api.OK) != (want == fresh) {
				t.Errorf("fuse %d, draw %d: told %d", fuse, draw, e)
			}
		}
	}
}

// The chapter's examples.

func TestExamples(t *testing.T) {
	for draw, want := range map[int]string{-1: "x", 1: "xy", 2: "xyz", 3: "x"} {
		d := laid("x", "yz")
		d.Crash([]int{draw})
		has(t, "example 1", d, map[string]string{"a": want})
	}
	d := disk.New()
	d.Append("a", "x")
	d.Crash([]int{0})
	has(t, "example 2", d, map[string]string{"a": ""})
	d = disk.New()
	d.Fuse(1)
	must(t, "example 2", d.Append("a", "x"), api.OK)
	must(t, "example 2", d.Sync("a"), api.ErrDown)
	has(t, "example 2", d, map[string]string{"a": "x"})
}
