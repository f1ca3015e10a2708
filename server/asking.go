package server

import (
	"slices"

	"hopper/api"
)

// request is one that was passed on, of a connection.
type request struct {
	conn int
	x    api.Request
	asks asking
}

// asking is what a request asks; which thing that is, its type tells.
type asking interface {
	// alone tells whether it waits until nobody is at a transaction.
	alone() bool
}

type (
	batch  struct{ ops []api.Op }
	query  struct{ ops []api.Op }
	create struct{ table api.Table }
	drop   struct{ name string }
	call   struct {
		name string
		args []api.Value
	}
)

func (batch) alone() bool  { return false }
func (query) alone() bool  { return false }
func (create) alone() bool { return true }
func (drop) alone() bool   { return true }
func (call) alone() bool   { return true }

// askingOf takes requests that a session has passed on: there are no other kinds.
func askingOf(x api.Request) asking {
	switch x.Kind {
	case api.MBatch:
		return batch{x.Ops}
	case api.MRead:
		return query{x.Ops}
	case api.MCreate:
		return create{x.Table}
	case api.MDrop:
		return drop{x.Name}
	}
	return call{x.Name, x.Args}
}

// passOn lets a request wait, if there is room for it.
func (s *Server) passOn(conn int, x api.Request) {
	if len(s.queue) >= s.room {
		s.tell(reply{conn, api.Reply{Kind: api.PBusy, Id: x.Id}})
		return
	}
	s.queue = append(s.queue, request{conn, x, askingOf(x)})
}

func (s *Server) mayBegin(r request) bool { return !r.asks.alone() || s.Working() == 0 }

// takeFirst lets an idle worker begin what waits first. All but a batch ends at once.
func (s *Server) takeFirst(w int) {
	r := s.queue[0]
	s.queue = slices.Delete(s.queue, 0, 1)
	switch asks := r.asks.(type) {
	case batch:
		s.store.Begin(w, asks.ops)
		s.workers[w] = &r
	case query:
		s.answer(r, asks)
	case create:
		s.changeTables(r, s.store.Create(asks.table))
	case drop:
		s.changeTables(r, s.store.Drop(asks.name))
	case call:
		result, done := s.call(w, asks)
		s.endNow(r, result, done)
	}
}
