package server

import (
	"hopper/api"
	"hopper/mess"
)

// step goes on with the transaction that a worker is at.
func (s *Server) step(w int) {
	done, o, _ := s.store.Step(w)
	if !done {
		return
	}
	r := *s.workers[w]
	s.workers[w] = nil
	if o.Epoch == 0 {
		s.endRefused(r, api.ErrLocked, nil)
		return
	}
	s.logWritten(w)
	s.endDone(r, api.Outcome{Committed: o.Committed, Epoch: o.Epoch + s.shift, Step: o.Step - s.silent, Results: o.Results})
}

// answer ends a query.
func (s *Server) answer(r request, asks query) {
	results, done, epoch, e := s.queries.Read(asks.ops)
	if e != api.OK {
		s.endRefused(r, e, []api.Result{{Code: e}})
		return
	}
	s.endDone(r, api.Outcome{Committed: done, Epoch: epoch + s.shift, Results: results})
}

// changeTables ends what a table was created or dropped by, or was not. Of that no log tells.
func (s *Server) changeTables(r request, e api.Errno) {
	if e == api.OK {
		s.addUnsaved(s.Epoch())
	}
	s.endNow(r, api.Result{Code: e}, e == api.OK)
}

// endNow ends what was done at once, while nobody was at a transaction: its place is behind all steps up to now.
func (s *Server) endNow(r request, result api.Result, done bool) {
	s.endDone(r, api.Outcome{Committed: done, Epoch: s.Epoch(), Step: s.store.Steps() - s.silent, Results: []api.Result{result}})
}

func (s *Server) endDone(r request, o api.Outcome) {
	y := api.Reply{Kind: api.PDone, Results: o.Results}
	if last := len(o.Results) - 1; last >= 0 {
		y.Code = o.Results[last].Code
	}
	s.end(r, o, y)
}

// endRefused ends what has no place among the others, and so no epoch.
func (s *Server) endRefused(r request, code api.Errno, results []api.Result) {
	s.end(r, api.Outcome{Results: results}, api.Reply{Kind: api.PError, Code: code})
}

func (s *Server) end(r request, o api.Outcome, y api.Reply) {
	// It came as bytes: it may be written.
	asked, _ := mess.Ask(r.x)
	s.ended = append(s.ended, ending{r.conn, asked, o})
	y.Id, y.Epoch = r.x.Id, o.Epoch
	s.tellInTime(reply{r.conn, y})
}
