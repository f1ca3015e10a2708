package server

import (
	"slices"
	"strings"

	"hopper/api"
	"hopper/mess"
)

// ending is a request that has ended, and what it came to.
type ending struct {
	conn  int
	asked string // the request's bytes, which take less room than it
	out   api.Outcome
}

// done makes what is told of a request that has ended somebody's own.
func (x ending) done() api.Done {
	own := api.Done{Conn: x.conn, Out: x.out}
	own.X, _ = mess.Asked(x.asked)
	own.Out.Results = slices.Clone(x.out.Results)
	for at, r := range own.Out.Results {
		own.Out.Results[at].Rows = copyRows(r.Rows)
	}
	return own
}

func copyRows(rows [][]api.Value) [][]api.Value {
	own := slices.Clone(rows)
	for at, row := range own {
		own[at] = slices.Clone(row)
		for place, v := range own[at] {
			own[at][place].S = strings.Clone(v.S)
		}
	}
	return own
}
