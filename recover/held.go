package recover

import (
	"errors"

	"hopper/api"
	"hopper/ckpt"
	"hopper/disk"
	"hopper/table"
	"hopper/tid"
	"hopper/wal"
)

// held is what a disk holds.
type held struct {
	data *table.Data
	// epoch is the greater one of the checkpoint's and the durable one.
	epoch, durable int
}

func read(d *disk.Disk) (held, error) {
	if d == nil {
		return held{}, mistake(api.ErrNone)
	}
	data, epoch, err := checkpointOf(d)
	if err != nil {
		return held{}, err
	}
	entries, durable, e := wal.Load(d)
	if err := refused(e); err != nil {
		return held{}, err
	}
	if err := redo(data, writesAbove(epoch, entries)); err != nil {
		return held{}, err
	}
	return held{data: data, epoch: max(epoch, durable), durable: durable}, nil
}

// checkpointOf answers data without tables, and 0, if there is no checkpoint: that is how a disk begins.
func checkpointOf(d *disk.Disk) (*table.Data, int, error) {
	data, epoch, e := ckpt.Read(d)
	err := refused(e)
	if errors.Is(err, mistake(api.ErrNone)) {
		return table.New(), 0, nil
	}
	return data, epoch, err
}

// writesAbove leaves out what the checkpoint of that epoch has already: its tables may be others than those that were written to.
func writesAbove(checkpoint int, entries []api.Entry) []api.Write {
	var writes []api.Write
	for _, x := range entries {
		// Load tells no word that may not be.
		epoch, _, _, _, _, _ := tid.Unpack(x.Tid)
		if epoch > checkpoint {
			writes = append(writes, x.Writes...)
		}
	}
	return writes
}
