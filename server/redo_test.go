package server_test

import (
	"hopper/api"
	"hopper/table"
	"hopper/tpcc"
)

// redo does what a request asks on plain data, by the chapters 15 and 23.
func redo(d *table.Data, x api.Request) (results []api.Result, done bool) {
	switch x.Kind {
	case api.MCreate:
		return alone(d.Create(x.Table))
	case api.MDrop:
		return alone(d.Drop(x.Name))
	case api.MCall:
		r, done := tpcc.Call(d, x.Name, x.Args)
		return []api.Result{r}, done
	}
	results, done, _ = d.Apply(x.Ops)
	return results, done
}

func alone(e api.Errno) ([]api.Result, bool) {
	return []api.Result{{Code: e}}, e == api.OK
}
