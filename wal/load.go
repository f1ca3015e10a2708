package wal

import (
	"cmp"
	"slices"
	"strconv"
	"strings"

	"hopper/api"
	"hopper/disk"
	"hopper/frame"
)

const (
	// marks is the file of the durable epochs.
	marks = "epoch"
	// newMarks is put in the place of marks.
	newMarks = "epoch.new"
	// logs is what the names of all logs begin with.
	logs = "log."
	// mostInName is what a greater number in a name counts as.
	mostInName = 1 << 40
)

func load(d *disk.Disk) ([]api.Entry, int) {
	refuse(d == nil, api.ErrNone)
	durable := durableOf(d)
	var list []api.Entry
	for _, name := range d.Names() {
		if _, isLog := generationOf(name); isLog {
			list = append(list, entriesUpTo(durable, d, name)...)
		}
	}
	// Stable: those of one Tid stay in the order of names and frames.
	slices.SortStableFunc(list, func(a, b api.Entry) int { return cmp.Compare(a.Tid, b.Tid) })
	return list, durable
}

func durableOf(d *disk.Disk) int {
	last := uint64(0)
	for _, body := range framesOf(d, marks) {
		refuse(len(body) != word, api.ErrCorrupt)
		epoch := numberOf(body)
		refuse(epoch <= last || epoch > api.MaxEpoch, api.ErrCorrupt)
		last = epoch
	}
	return int(last)
}

// entriesUpTo answers those entries of a log that last, but looks at the others, too.
func entriesUpTo(durable int, d *disk.Disk, name string) []api.Entry {
	var list []api.Entry
	for _, body := range framesOf(d, name) {
		x, e := Entry(body)
		refuse(e != api.OK, api.ErrCorrupt)
		if epochOf(x) <= durable {
			list = append(list, x)
		}
	}
	return list
}

// framesOf answers the bodies of a file's frames: none of a file that is not there.
func framesOf(d *disk.Disk, name string) []string {
	b, _ := d.Read(name)
	bodies, end := frame.Frames(b)
	// What ends early was torn by a crash, and never counted. (Nothing at all ends early, too.)
	_, _, f := frame.Unframe(b, end)
	refuse(f.Code != api.ErrEnd, api.ErrCorrupt)
	return bodies
}

func logName(worker, generation int) string {
	return logs + strconv.Itoa(worker) + "." + strconv.Itoa(generation)
}

// generationOf answers false, if a name is no log's.
func generationOf(name string) (int, bool) {
	rest, begins := strings.CutPrefix(name, logs)
	// Without a point there are no digits behind it, either.
	worker, generation, _ := strings.Cut(rest, ".")
	if !begins || !areDigits(worker) || !areDigits(generation) {
		return 0, false
	}
	return countOf(generation), true
}

func areDigits(s string) bool {
	for at := range len(s) {
		if s[at] < '0' || s[at] > '9' {
			return false
		}
	}
	return s != ""
}

// countOf takes the least at each digit, so that no number of digits is too great for an int.
func countOf(digits string) int {
	n := 0
	for at := range len(digits) {
		n = min(n*10+int(digits[at]-'0'), mostInName)
	}
	return n
}
