package filesdb_test

import (
	"fmt"
	"testing"

	"concierge/api"
	"concierge/filesdb"
	"concierge/world"
)

// A DB is a source that tells which databases it knows.
var (
	_ api.Source = (*filesdb.DB)(nil)
	_ api.Able   = (*filesdb.DB)(nil)
)

// poll tells what an Op answers in one text, as look does, and faults one that is not done.
func poll(t *testing.T, d *filesdb.DB, o api.Op) string {
	t.Helper()
	a, deps, err, done := o.Poll()
	if !done {
		t.Error("P8.2: an Op is not done")
	}
	return tell(a, deps, err) + fmt.Sprint("; ", d.Reads())
}

func TestSource(t *testing.T) {
	for why, d := range map[string]*filesdb.DB{"of both tables": filesdb.New(both()), "of no file": filesdb.New(world.New()), "of a nil world": filesdb.New(nil), "a zero one": new(filesdb.DB), "a nil one": nil} {
		expect(t, "P8.2 "+why, d.Name(), "files")
		for _, db := range []int{api.DHosts, api.DAddrs, api.DServices, api.DPorts} {
			if !d.Able(db) {
				t.Errorf("P8.2: %s: Able(%d) is false", why, db)
			}
		}
		for _, db := range foreign {
			if d.Able(db) {
				t.Errorf("P8.2: %s: Able(%d) is true", why, db)
			}
		}
		expect(t, "P8.2 a name and a number read nothing", fmt.Sprint(d.Reads()), "0")
	}
}

// TestBegin: an Op is done at once, with what Look answers.
func TestBegin(t *testing.T) {
	for _, w := range []func() *world.World{both, world.New, func() *world.World { return nil }} {
		queries := all()
		for _, db := range foreign {
			queries = append(queries, api.Query{DB: db, Name: "gate", Port: 53})
		}
		for _, q := range queries {
			d := filesdb.New(w())
			want := look(filesdb.New(w()), q)
			o := d.Begin(q)
			for range 3 {
				expect(t, "P8.2 "+show(q), poll(t, d, o), want)
			}
		}
	}
}

// TestOpsStay: an Op's answer is that of the moment when it began, whatever comes behind.
func TestOpsStay(t *testing.T) {
	w := world.New()
	d := filesdb.New(w)
	early := d.Begin(hostOf("a"))
	w.Put(hostsPath, []byte("1.1.1.1 a"))
	first := d.Begin(hostOf("a"))
	other := d.Begin(addrOf("\x01\x01\x01\x01"))
	w.Put(hostsPath, []byte("2.2.2.2 a"))
	second := d.Begin(hostOf("a"))
	w.Remove(hostsPath)
	late := d.Begin(hostOf("a"))
	for range 2 {
		expect(t, "P8.2 ahead of the file", poll(t, d, early), "[] [] 0 0; [{/etc/hosts 0}]; unavailable; 2")
		expect(t, "P8.2 of the file", poll(t, d, first), `[] ["\x01\x01\x01\x01"] 0 600; [{/etc/hosts 1}]; <nil>; 2`)
		expect(t, "P8.2 of the file, the other way", poll(t, d, other), `["a"] [] 0 600; [{/etc/hosts 1}]; <nil>; 2`)
		expect(t, "P8.2 of the next file", poll(t, d, second), `[] ["\x02\x02\x02\x02"] 0 600; [{/etc/hosts 2}]; <nil>; 2`)
		expect(t, "P8.2 behind the file", poll(t, d, late), "[] [] 0 0; [{/etc/hosts 3}]; unavailable; 2")
	}
}

func TestOpsOwnMemory(t *testing.T) {
	d := filesdb.New(both())
	for _, c := range found {
		o, other := d.Begin(c.q), d.Begin(c.q)
		want := poll(t, d, o)
		a, deps, _, _ := o.Poll()
		spoil(a, deps)
		expect(t, "P0.3 polled again, "+show(c.q), poll(t, d, o), want)
		expect(t, "P0.3 another Op, "+show(c.q), poll(t, d, other), want)
		expect(t, "P0.3 a look, "+show(c.q), look(d, c.q), want)
	}
}
