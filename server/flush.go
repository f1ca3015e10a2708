package server

import (
	"slices"

	"hopper/api"
	"hopper/ckpt"
	"hopper/tid"
)

// logWritten gives the log what a worker has written since the last call: all of it, since this is called behind each transaction.
func (s *Server) logWritten(w int) {
	for _, x := range s.store.Entries() {
		epoch, seq, _, _, _, _ := tid.Unpack(x.Tid)
		epoch += s.shift
		word, e := tid.Pack(epoch, seq, false, false, false)
		if e == api.OK {
			x.Tid = word
			e = s.log.Add(w, x)
		}
		if e != api.OK {
			s.addUnsaved(epoch)
		}
	}
}

// addUnsaved notes that what came at an epoch lasts by a checkpoint alone.
func (s *Server) addUnsaved(epoch int) {
	if !slices.Contains(s.unsaved, epoch) {
		s.unsaved = append(s.unsaved, epoch)
	}
}

// isUnsaved tells whether something up to an epoch lasts by a checkpoint alone that was not written yet.
func (s *Server) isUnsaved(epoch int) bool { return len(s.unsaved) > 0 && s.unsaved[0] <= epoch }

// lasting is the greatest epoch of which no transaction can come any more, as far as logs can tell of it: who is at one may have begun an epoch ago.
func (s *Server) lasting() int {
	last := s.Epoch() - 1
	if s.Working() > 0 {
		last--
	}
	return min(last, api.MaxEpoch)
}

// save writes a checkpoint as of an epoch, which has all up to it.
func (s *Server) save(epoch int) api.Errno {
	// Nobody is at a transaction, so that this epoch may be asked for.
	data, _ := s.AsOf(epoch)
	if _, e := ckpt.Write(s.disk, data, epoch); e != api.OK {
		return e
	}
	s.unsaved = slices.DeleteFunc(s.unsaved, func(x int) bool { return x <= epoch })
	return api.OK
}
