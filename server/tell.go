package server

import (
	"hopper/api"
	"hopper/mess"
	"hopper/wire"
)

// reply is one to a client, and its connection.
type reply struct {
	conn int
	y    api.Reply
}

// tellInTime lets nothing out that a crash could take back.
func (s *Server) tellInTime(r reply) {
	if r.y.Epoch > s.durable {
		s.waiting = append(s.waiting, r)
		return
	}
	s.tell(r)
}

// tellWaiting lets out what has become durable.
func (s *Server) tellWaiting() {
	list := s.waiting
	s.waiting = nil
	for _, r := range list {
		s.tellInTime(r)
	}
}

func (s *Server) tell(r reply) {
	b, e := mess.Tell(r.y)
	if e != api.OK {
		b, _ = mess.Tell(api.Reply{Kind: api.PError, Id: r.y.Id, Code: api.ErrLong, Epoch: r.y.Epoch})
	}
	p, _ := wire.Packet(b)
	c := s.conns[r.conn]
	c.out = append(c.out, p...)
}
