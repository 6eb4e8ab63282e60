package filesdb

import (
	"slices"

	"concierge/api"
)

// op is a question that has ended: what Look answered when it began.
type op struct {
	answer api.Answer
	deps   []api.Dep
	err    error
}

// Name: the source's name.
func (d *DB) Name() string { return "files" }

// Able: db is one of the four databases.
func (d *DB) Able(db int) bool {
	switch db {
	case api.DHosts, api.DAddrs, api.DServices, api.DPorts:
		return true
	}
	return false
}

// Begin: the question q, which is answered at once.
func (d *DB) Begin(q api.Query) api.Op {
	var o op
	o.answer, o.deps, o.err = d.Look(q)
	return &o
}

// Poll: the same answer again and again, each time in new memory.
func (o *op) Poll() (api.Answer, []api.Dep, error, bool) {
	a := o.answer
	a.Names, a.Addrs = slices.Clone(a.Names), slices.Clone(a.Addrs)
	return a, slices.Clone(o.deps), o.err, true
}
