package tpcc

import (
	"slices"

	"hopper/api"
	"hopper/table"
	"hopper/value"
)

// The tables' names.
const (
	house    = "house"
	district = "district"
	customer = "customer"
	item     = "item"
	stock    = "stock"
	orders   = "orders"
	fresh    = "fresh"
	line     = "line"
)

// The columns that are read or changed, by their places.
const (
	houseTax = 1
	houseYtd = 2

	districtOf   = 1
	districtTax  = 2
	districtYtd  = 3
	districtNext = 4

	customerOff     = 3
	customerBalance = 4
	customerPaid    = 5
	customerTimes   = 6

	itemPrice = 1

	stockLeft   = 2
	stockSold   = 3
	stockOrders = 4

	orderNumber   = 2
	orderCustomer = 3
	orderLines    = 4
	orderCarrier  = 5

	freshOrder = 2

	lineNumber = 3
	lineItem   = 4
	lineFrom   = 5
	lineMany   = 6
	lineAmount = 7
)

func wholeNumbers(name string, key int, columns ...string) api.Table {
	t := api.Table{Name: name, Key: key}
	for _, column := range columns {
		t.Columns = append(t.Columns, api.Column{Name: column, Kind: api.VInt})
	}
	return t
}

// hasTables tells whether all tables are there, with the schemas that they are to have.
func hasTables(d *table.Data) bool {
	for _, own := range Tables() {
		t, e := d.Schema(own.Name)
		if e != api.OK || t.Key != own.Key || len(t.Indexes) > 0 || !slices.Equal(t.Columns, own.Columns) {
			return false
		}
	}
	return true
}

// loaded are the operations that put in what new books have: few enough for one batch.
func loaded(houses, districts, customers, items int64) []api.Op {
	var ops []api.Op
	put := func(name string, row ...int64) { ops = append(ops, putOf(name, values(row...))) }
	for i := int64(1); i <= items; i++ {
		put(item, i, 100*i+1)
	}
	for w := int64(1); w <= houses; w++ {
		put(house, w, 100*w, 0)
		for i := int64(1); i <= items; i++ {
			put(stock, w, i, 50, 0, 0)
		}
		for d := int64(1); d <= districts; d++ {
			put(district, w, d, 50*d, 0, 1)
			for c := int64(1); c <= customers; c++ {
				put(customer, w, d, c, 100*c, 0, 0, 0)
			}
		}
	}
	return ops
}

func putOf(name string, row []api.Value) api.Op {
	return api.Op{Kind: api.OPut, Table: name, Row: row}
}

func values(numbers ...int64) []api.Value {
	out := make([]api.Value, len(numbers))
	for at, n := range numbers {
		out[at] = api.Value{Kind: api.VInt, N: n}
	}
	return out
}

func rowsOf(lists [][]int64) [][]api.Value {
	var out [][]api.Value
	for _, list := range lists {
		out = append(out, values(list...))
	}
	return out
}

// wholes answers the numbers of args, and false if one of them is no whole number. It looks at one by one, since a call takes more of them than a row may have.
func wholes(args []api.Value) ([]int64, bool) {
	out := make([]int64, len(args))
	for at, v := range args {
		if _, e := value.Check([]api.Value{v}); e != api.OK || v.Kind != api.VInt {
			return nil, false
		}
		out[at] = v.N
	}
	return out, true
}

func isUpTo[number int | int64](n, most number) bool { return 1 <= n && n <= most }
