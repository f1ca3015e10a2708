package recover

import (
	"strings"

	"hopper/ckpt"
	"hopper/disk"
	"hopper/wal"
)

const (
	// logs is what the names of all logs begin with.
	logs = "log."
	// mostInName is what a greater number in a name counts as.
	mostInName = 1 << 40
)

// start makes a disk ready for epochs above the one that it holds. Behind each change it holds the same: first all is in the checkpoint, then nothing of the older logs counts any more.
func (h held) start(d *disk.Disk, workers int) (*wal.Log, error) {
	_, e := ckpt.Write(d, h.data, h.epoch)
	if err := refused(e); err != nil {
		return nil, err
	}
	l, e := wal.Open(d, workers)
	if err := refused(e); err != nil {
		return nil, err
	}
	// Ahead of any mark: what older logs have of later epochs would count then.
	_, e = l.Trim(lastGeneration(d))
	if err := refused(e); err != nil {
		return nil, err
	}
	return l, h.markOn(l)
}

// markOn lets the log take entries above the epoch alone, also if that is the checkpoint's, of which the log does not know.
func (h held) markOn(l *wal.Log) error {
	if h.epoch <= h.durable {
		return nil
	}
	return refused(l.Mark(h.epoch))
}

// lastGeneration is the greatest one of the logs on a disk, which is that ahead of the one that was opened behind them. It is below 0, if there are none.
func lastGeneration(d *disk.Disk) int {
	last := -1
	for _, name := range d.Names() {
		if generation, isLog := generationOf(name); isLog {
			last = max(last, generation)
		}
	}
	return last
}

// generationOf answers false, if a name is no log's.
func generationOf(name string) (int, bool) {
	rest, begins := strings.CutPrefix(name, logs)
	// Without a point there are no digits behind it, either.
	worker, generation, _ := strings.Cut(rest, ".")
	if !begins || !areDigits(worker) || !areDigits(generation) {
		return 0, false
	}
	return countOf(generation), true
}

func areDigits(s string) bool {
	for at := range len(s) {
		if s[at] < '0' || s[at] > '9' {
			return false
		}
	}
	return s != ""
}

// countOf takes the least at each digit, so that no number of digits is too great for an int.
func countOf(digits string) int {
	n := 0
	for at := range len(digits) {
		n = min(n*10+int(digits[at]-'0'), mostInName)
	}
	return n
}
