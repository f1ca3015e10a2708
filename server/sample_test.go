package server_test

import (
	"encoding/binary"
	"fmt"
	"strings"
	"testing"

	"hopper/api"
	"hopper/auth"
	"hopper/ckpt"
	"hopper/disk"
	"hopper/mess"
	"hopper/table"
	"hopper/tpcc"
)

// Values, rows, operations, tables and requests that many tests take.

type row = []api.Value

func null() api.Value { return api.Value{} }

func num(n int64) api.Value { return api.Value{Kind: api.VInt, N: n} }

func txt(s string) api.Value { return api.Value{Kind: api.VText, S: s} }

func nums(list ...int64) (r row) {
	for _, n := range list {
		r = append(r, num(n))
	}
	return r
}

func get(name string, key ...api.Value) api.Op {
	return api.Op{Kind: api.OGet, Table: name, Key: key}
}

func put(name string, r ...api.Value) api.Op { return api.Op{Kind: api.OPut, Table: name, Row: r} }

func insert(name string, r ...api.Value) api.Op {
	return api.Op{Kind: api.OInsert, Table: name, Row: r}
}

func del(name string, key ...api.Value) api.Op {
	return api.Op{Kind: api.ODelete, Table: name, Key: key}
}

func scan(name string) api.Op {
	return api.Op{Kind: api.OScan, Table: name, Limit: api.MaxItems}
}

func find(name, index string, values ...api.Value) api.Op {
	return api.Op{Kind: api.OFind, Table: name, Index: index, Key: values, Limit: api.MaxItems}
}

func add(name string, at int, n int64, key ...api.Value) api.Op {
	return api.Op{Kind: api.OAdd, Table: name, At: at, N: n, Key: key}
}

// plain has a key and a number.
func plain(name string) api.Table {
	return api.Table{Name: name, Columns: []api.Column{{Name: "a", Kind: api.VInt}, {Name: "b", Kind: api.VInt}}, Key: 1}
}

// indexed is as chapter 14's example, its index a unique one.
func indexed(name string) api.Table {
	return api.Table{
		Name:    name,
		Columns: []api.Column{{Name: "a", Kind: api.VInt}, {Name: "b", Kind: api.VText}},
		Key:     1,
		Indexes: []api.Index{{Name: "i", Columns: []int{1}, Unique: true}},
	}
}

func batch(id int, ops ...api.Op) api.Request {
	return api.Request{Kind: api.MBatch, Id: id, Ops: ops}
}

func query(id int, ops ...api.Op) api.Request {
	return api.Request{Kind: api.MRead, Id: id, Ops: ops}
}

func create(id int, t api.Table) api.Request {
	return api.Request{Kind: api.MCreate, Id: id, Table: t}
}

func drop(id int, name string) api.Request {
	return api.Request{Kind: api.MDrop, Id: id, Name: name}
}

func call(id int, name string, args ...int64) api.Request {
	return api.Request{Kind: api.MCall, Id: id, Name: name, Args: nums(args...)}
}

// What goes over the wire.

func packed(body string) string {
	return string(binary.BigEndian.AppendUint32(nil, uint32(len(body)))) + body
}

func asking(list ...api.Request) string {
	var out strings.Builder
	for _, x := range list {
		b, e := mess.Ask(x)
		if e != api.OK {
			panic(fmt.Sprint("a request that may not be: ", e))
		}
		out.WriteString(packed(b))
	}
	return out.String()
}

// telling is a reply's packet, or that of the one that goes out instead.
func telling(y api.Reply) string {
	b, e := mess.Tell(y)
	if e != api.OK {
		b, e = mess.Tell(api.Reply{Kind: api.PError, Id: y.Id, Code: api.ErrLong, Epoch: y.Epoch})
	}
	if e != api.OK {
		panic(fmt.Sprint("a reply that may not be: ", e))
	}
	return packed(b)
}

// theDraw is that of all servers that a test has no other one for.
const theDraw = 9

func theKeys() *auth.Keys {
	k := auth.New()
	k.Put("ann", "k")
	k.Put("bob", "b")
	return k
}

func hello(id int, name string) string {
	return asking(api.Request{Kind: api.MHello, Id: id, Name: name})
}

func proving(id int, text string) string {
	return asking(api.Request{Kind: api.MProof, Id: id, Text: text})
}

func bye(id int) string { return asking(api.Request{Kind: api.MBye, Id: id}) }

// Disks and data.

// dataOf has a table with rows of the keys and numbers that are told by turns.
func dataOf(t api.Table, list ...int64) *table.Data {
	d := table.New()
	d.Create(t)
	for at := 0; at < len(list); at += 2 {
		d.Apply([]api.Op{put(t.Name, num(list[at]), num(list[at+1]))})
	}
	return d
}

// saved is a disk with a checkpoint.
func saved(t *testing.T, data *table.Data, epoch int) *disk.Disk {
	t.Helper()
	d := disk.New()
	if _, e := ckpt.Write(d, data, epoch); e != api.OK {
		t.Fatal(e)
	}
	return d
}

// books is a disk with the trader's books.
func books(t *testing.T, epoch int) *disk.Disk {
	t.Helper()
	data := table.New()
	if e := tpcc.Load(data, 1, 2, 3, 5); e != api.OK {
		t.Fatal(e)
	}
	return saved(t, data, epoch)
}

// copied has the same files, all of which are safe.
func copied(d *disk.Disk) *disk.Disk {
	out := disk.New()
	for name, b := range filesOf(d) {
		out.Append(name, b)
		out.Sync(name)
	}
	return out
}

func filesOf(d *disk.Disk) map[string]string {
	files := map[string]string{}
	for _, name := range d.Names() {
		files[name], _ = d.Read(name)
	}
	return files
}

// What data and answers look like, so that they may be compared. A list that is nil looks as one that is empty.

func lookOfRows(rows []row) string {
	var out strings.Builder
	for _, r := range rows {
		out.WriteString("(")
		for _, v := range r {
			fmt.Fprintf(&out, "%d %d %v %q;", v.Kind, v.N, v.C, v.S)
		}
		out.WriteString(")")
	}
	return out.String()
}

func lookOfResults(list []api.Result) string {
	var out strings.Builder
	for _, r := range list {
		fmt.Fprintf(&out, "[%d %s]", r.Code, lookOfRows(r.Rows))
	}
	return out.String()
}

func lookOfOutcome(o api.Outcome) string {
	return fmt.Sprint(o.Worker, o.Number, o.Committed, o.Epoch, o.Step, lookOfResults(o.Results))
}

func lookOfDone(x api.Done) string {
	return fmt.Sprintf("%d %q %s", x.Conn, asking(x.X), lookOfOutcome(x.Out))
}

func lookOf(d *table.Data) string {
	var out strings.Builder
	for _, name := range d.Tables() {
		schema, _ := d.Schema(name)
		rows, _ := d.Rows(name)
		fmt.Fprintf(&out, "%q %q: %s\n", name, asking(create(0, schema)), lookOfRows(rows))
	}
	return out.String()
}

// cloned is data of its own.
func cloned(d *table.Data) *table.Data {
	out := table.New()
	for _, name := range d.Tables() {
		schema, _ := d.Schema(name)
		out.Create(schema)
		rows, _ := d.Rows(name)
		var ops []api.Op
		for _, r := range rows {
			ops = append(ops, put(name, r...))
		}
		out.Apply(ops)
	}
	return out
}
