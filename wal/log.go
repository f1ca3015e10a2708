package wal

import (
	"slices"
	"strings"

	"hopper/api"
	"hopper/disk"
	"hopper/frame"
)

// Log writes entries to files of their workers, and marks up to which epoch all of them are there.
type Log struct {
	disk       *disk.Disk
	workers    []worker
	durable    int
	generation int // of the files that are written to
}

// worker has entries that wait, as they were added. Their Tids rise.
type worker struct {
	waiting []line
	last    uint64 // the Tid that was added last; 0 ahead of the first, which is above that in any case
}

// line is an entry that waits: its bytes are made when it is added, so that nothing is kept of what was handed in.
type line struct {
	epoch int
	frame string
}

func open(d *disk.Disk, workers int) *Log {
	refuse(d == nil, api.ErrNone)
	refuse(workers < 1 || workers > api.MaxWorkers, api.ErrRange)
	_, durable := load(d)
	renew(d, durable)
	return &Log{disk: d, workers: make([]worker, workers), durable: durable, generation: nextGeneration(d)}
}

// renew leaves nothing torn behind the durable epoch: what is marked next would stand behind that.
func renew(d *disk.Disk, durable int) {
	if durable == 0 {
		removeIfThere(d, marks)
		return
	}
	removeIfThere(d, newMarks)
	write(d, newMarks, markOf(durable))
	must(d.Rename(newMarks, marks))
}

func removeIfThere(d *disk.Disk, name string) {
	if e := d.Remove(name); e != api.ErrNone {
		must(e)
	}
}

// nextGeneration is one that no file is of, so that nothing is written behind what was torn.
func nextGeneration(d *disk.Disk) int {
	next := 0
	for _, name := range d.Names() {
		if generation, isLog := generationOf(name); isLog {
			next = max(next, generation+1)
		}
	}
	return next
}

func (l *Log) worker(w int) *worker {
	refuse(w < 0 || w >= len(l.workers), api.ErrWorker)
	return &l.workers[w]
}

func (l *Log) add(w int, x api.Entry) {
	own := l.worker(w)
	bytes := bytesOf(x)
	epoch := epochOf(x)
	refuse(x.Tid <= own.last || epoch <= l.durable, api.ErrOlder)
	own.waiting = append(own.waiting, line{epoch: epoch, frame: frameOf(bytes)})
	own.last = x.Tid
}

func (l *Log) flush(w int) {
	own := l.worker(w)
	for len(own.waiting) > 0 {
		frames, many := own.first()
		write(l.disk, logName(w, l.generation), frames)
		// Not sliced from the front: what is written is let go of.
		own.waiting = slices.Delete(own.waiting, 0, many)
	}
}

// first answers the frames that are written at once, and how many there are.
func (own *worker) first() (string, int) {
	var frames strings.Builder
	many := 0
	for _, x := range own.waiting {
		if many > 0 && frames.Len()+len(x.frame) > api.MaxBytes {
			break
		}
		frames.WriteString(x.frame)
		many++
	}
	return frames.String(), many
}

func (l *Log) mark(epoch int) {
	refuse(epoch <= l.durable || epoch > api.MaxEpoch, api.ErrRange)
	for _, own := range l.workers {
		// The first one that waits is of the least epoch.
		refuse(len(own.waiting) > 0 && own.waiting[0].epoch <= epoch, api.ErrLog)
	}
	write(l.disk, marks, markOf(epoch))
	l.durable = epoch
}

func (l *Log) rotate() int {
	refuse(l.generation >= api.MaxEpoch, api.ErrRange)
	was := l.generation
	l.generation++
	return was
}

func (l *Log) trim(most int) int {
	refuse(most >= l.generation, api.ErrRange)
	many := 0
	for _, name := range l.disk.Names() {
		if generation, isLog := generationOf(name); isLog && generation <= most {
			must(l.disk.Remove(name))
			many++
		}
	}
	return many
}

// write answers when what is written lasts.
func write(d *disk.Disk, name, data string) {
	must(d.Append(name, data))
	must(d.Sync(name))
}

func markOf(epoch int) string { return frameOf(numberBytes(uint64(epoch))) }

func frameOf(b string) string {
	framed, e := frame.Frame(b)
	must(e)
	return framed
}
