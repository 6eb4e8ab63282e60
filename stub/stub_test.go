package stub_test

import (
	"fmt"
	"math"
	"strings"
	"testing"

	"concierge/addr"
	"concierge/api"
	"concierge/outcome"
	"concierge/stub"
	"concierge/wire"
	"concierge/world"
)

const setupPath = "/etc/resolv"

// Addresses of servers, as they are and as settings have them.
const (
	s1, s2, s3 = "\x01\x01\x01\x01", "\x02\x02\x02\x02", "\x03\x03\x03\x03"
	one        = "nameserver 1.1.1.1\n"
	two        = one + "nameserver 2.2.2.2\n"
	three      = two + "nameserver 3.3.3.3\n"
)

// A resolver is a source that tells which databases it knows.
var (
	_ api.Source = (*stub.Stub)(nil)
	_ api.Able   = (*stub.Stub)(nil)
)

// foreign are numbers that aren't those of the two databases that a resolver knows.
var foreign = []int{api.DServices, api.DPorts, 0, -1, 5, math.MinInt, math.MaxInt}

// hostOf and addrOf are queries.
func hostOf(name string) api.Query { return api.Query{DB: api.DHosts, Name: name} }
func addrOf(a string) api.Query    { return api.Query{DB: api.DAddrs, Name: a} }

// desk is a world and a resolver in it.
type desk struct {
	t *testing.T
	w *world.World
	s *stub.Stub
	// seen is how many datagrams sent told of.
	seen int
}

// open: a desk whose settings are these.
func open(t *testing.T, settings string) *desk {
	w := world.New()
	w.Put(setupPath, []byte(settings))
	return &desk{t: t, w: w, s: stub.New(w)}
}

// talk is a lookup at a desk.
type talk struct {
	*desk
	op api.Op
}

// begin: the lookup of q.
func (d *desk) begin(q api.Query) *talk {
	d.t.Helper()
	o := d.s.Begin(q)
	if o == nil {
		d.t.Fatalf("P16.1: no lookup of %v", q)
	}
	return &talk{desk: d, op: o}
}

// read tells a datagram in one text: to whom, its ID, its name and type.
func read(d api.Datagram) string {
	m, err := wire.Decode(d.Body)
	return fmt.Sprintf("%s %d %s %d", addr.Print(d.To), m.ID, m.Question.Name, m.Question.Type) + map[bool]string{true: " ?"}[err != nil]
}

// sent tells the datagrams that were sent since it told of them last, with ", " between.
func (d *desk) sent() string {
	all := d.w.Sent()[d.seen:]
	d.seen += len(all)
	var told []string
	for _, one := range all {
		told = append(told, read(one))
	}
	return strings.Join(told, ", ")
}

// expectSent: these datagrams, and no others, were sent since the last time.
func (d *desk) expectSent(promise, want string) {
	d.t.Helper()
	expect(d.t, promise+": what was sent", d.sent(), want)
}

// streams tells all streams in one text: to whom, how many bytes were written, and whether they are closed.
func (d *desk) streams() string {
	var told []string
	for _, s := range d.w.Streams() {
		told = append(told, fmt.Sprint(addr.Print(s.To), " ", len(s.Written), " ", s.Closed))
	}
	return strings.Join(told, ", ")
}

// answerTo: a reply with this code and these records to the datagram of that number (below 0: counted from the last one, -1).
func (d *desk) answerTo(number, code int, records ...api.Record) api.Message {
	all := d.w.Sent()
	if number < 0 {
		number += len(all)
	}
	m, err := wire.Decode(all[number].Body)
	if err != nil {
		d.t.Fatalf("the datagram %d: %v", number, err)
	}
	m.Reply, m.Want, m.Code, m.Answers = true, false, code, records
	return m
}

// last: to whom the last datagram was sent.
func (d *desk) last() string {
	all := d.w.Sent()
	return all[len(all)-1].To
}

// written: a message's bytes.
func (d *desk) written(m api.Message) []byte {
	d.t.Helper()
	b, err := wire.Encode(m)
	if err != nil {
		d.t.Fatalf("%v: %v", m, err)
	}
	return b
}

// record answers the last datagram's question: Data with a TTL.
func (d *desk) record(data string, ttl int64) api.Record {
	m := d.answerTo(-1, 0)
	return api.Record{Name: m.Question.Name, Type: m.Question.Type, TTL: ttl, Data: data}
}

// hear: the lookup hears this message from that address.
func (k *talk) hear(from string, m api.Message) {
	k.t.Helper()
	k.op.(api.Hearer).Hear(from, k.written(m))
}

// answer: the lookup hears a reply with this code and these records to the last datagram, from its server.
func (k *talk) answer(code int, records ...api.Record) {
	k.t.Helper()
	k.hear(k.last(), k.answerTo(-1, code, records...))
}

// tick: the clock goes on, and the lookup is polled.
func (k *talk) tick(n int64) string {
	k.w.Advance(n)
	return k.poll()
}

// poll tells in one text what the lookup tells.
func (k *talk) poll() string { return told(k.op.Poll()) }

// told tells in one text what Poll answers: names, addresses as they are printed, the port and life, Deps, the error and whether it is done.
func told(a api.Answer, deps []api.Dep, err error, done bool) string {
	addrs := []string{}
	for _, s := range a.Addrs {
		addrs = append(addrs, addr.Print(s))
	}
	return fmt.Sprintf("%s %s %d %d; %v; %v; %t", a.Names, addrs, a.Port, a.Life, deps, err, done)
}

// What lookups tell, of settings that have the stamp 1.
const (
	waiting  = "[] [] 0 0; []; <nil>; false"
	unavail  = "[] [] 0 0; [{/etc/resolv 1}]; dns: unavailable; true"
	tryAgain = "[] [] 0 0; [{/etc/resolv 1}]; dns: try again; true"
	notFound = "[] [] 0 0; [{/etc/resolv 1}]; dns: not found; true"
)

// found: what a lookup tells that found this (names, addresses, Life).
func found(names, addrs string, life int64) string {
	return fmt.Sprintf("[%s] [%s] 0 %d; [{/etc/resolv 1}]; <nil>; true", names, addrs, life)
}

// expectPoll: the lookup tells this, as often as it is polled.
func (k *talk) expectPoll(promise, want string) {
	k.t.Helper()
	for range 2 {
		expect(k.t, promise, k.poll(), want)
	}
}

func expect(t *testing.T, promise, got, want string) {
	t.Helper()
	if got != want {
		t.Errorf("%s: got %s, want %s", promise, got, want)
	}
}

func TestSource(t *testing.T) {
	for why, s := range map[string]*stub.Stub{"in a world": stub.New(world.New()), "of no world": stub.New(nil), "a zero one": new(stub.Stub), "a nil one": nil} {
		expect(t, "P16.1 "+why, s.Name(), "dns")
		for _, db := range []int{api.DHosts, api.DAddrs} {
			if !s.Able(db) {
				t.Errorf("P16.1: %s: Able(%d) is false", why, db)
			}
		}
		for _, db := range foreign {
			if s.Able(db) {
				t.Errorf("P16.1: %s: Able(%d) is true", why, db)
			}
		}
	}
}

// noQueries are queries of which there is no lookup.
func noQueries() []api.Query {
	var all []api.Query
	for _, db := range foreign {
		all = append(all, api.Query{DB: db, Name: "a", Port: 53}, api.Query{DB: db, Name: s1, Proto: "tcp"})
	}
	for _, name := range []string{"", ".", "..", "a..", ".a", "a..b", "a b", "a!", "\xff", "\x01\x01\x01\x01", strings.Repeat("a", 64), strings.Repeat("a.", 127) + "a", strings.Repeat("x", 1<<20)} {
		all = append(all, hostOf(name))
	}
	for _, size := range []int{0, 1, 2, 3, 5, 6, 8, 12, 15, 17, 20, 32, 1 << 20} {
		all = append(all, addrOf(strings.Repeat("\x01", size)))
	}
	return append(all, addrOf("gate"+"s"), addrOf("1.1.1.1"))
}

// TestNoLookup: Begin gives nil, sends nothing and counts nothing.
func TestNoLookup(t *testing.T) {
	for _, settings := range []string{"", two + "options rotate"} {
		d := open(t, settings)
		for _, q := range noQueries() {
			if o := d.s.Begin(q); o != nil {
				t.Errorf("P16.1: %d %.60q: %v", q.DB, q.Name, o)
			}
		}
		d.expectSent("P16.1 no lookup", "")
	}
	if o := stub.New(world.New()).Begin(hostOf("!")); o != nil {
		t.Errorf("P16.1: no name, no settings: %v", o)
	}
	d := open(t, two+"options rotate")
	for _, q := range noQueries() {
		d.s.Begin(q)
	}
	d.begin(hostOf("a"))
	d.expectSent("P16.1 behind queries that are none", "1.1.1.1 1 a 1")
}

// TestNoWorld: there is no lookup where there is no world.
func TestNoWorld(t *testing.T) {
	for why, s := range map[string]*stub.Stub{"of no world": stub.New(nil), "a zero one": new(stub.Stub), "a nil one": nil} {
		for _, q := range append(noQueries(), hostOf("a"), hostOf("a.b."), addrOf(s1), addrOf(s1+s2+s3+s1)) {
			if o := s.Begin(q); o != nil {
				t.Errorf("P16.2: %s: %d %.60q: %v", why, q.DB, q.Name, o)
			}
		}
	}
}

// TestUnavail: without a server a lookup is done at once, sends nothing and counts nothing.
func TestUnavail(t *testing.T) {
	for _, settings := range []string{"", "options rotate\nsearch a b", "nameserver", "nameserver x", "nameserver 1.1.1", "# nameserver 1.1.1.1", "servers 1.1.1.1"} {
		for _, q := range []api.Query{hostOf("a"), hostOf("A."), addrOf(s1), addrOf(s1 + s1 + s1 + s1)} {
			d := open(t, settings)
			k := d.begin(q)
			k.expectPoll("P16.1 no server", unavail)
			_, _, err, _ := k.op.Poll()
			if outcome.Of(err) != api.Unavail || outcome.Source(err) != "dns" {
				t.Errorf("P16.1: no server: %v", err)
			}
			k.op.(api.Hearer).Hear("", nil)
			k.op.(api.Hearer).Hear(s1, k.written(api.Message{Reply: true, Question: api.Question{Name: "a", Type: api.TA}}))
			k.op.(api.Hearer).Bytes(0, []byte{0, 0}, true)
			expect(t, "P16.1 no server, later", k.tick(1000), unavail)
			d.expectSent("P16.1 no server", "")
			expect(t, "P16.1 no server, streams", d.streams(), "")
			d.w.Put(setupPath, []byte(two+"options rotate"))
			k.expectPoll("P16.1 a server behind its end", unavail)
			d.begin(hostOf("a"))
			d.expectSent("P16.1 a lookup without a server doesn't count", "1.1.1.1 1 a 1")
		}
	}
}

// TestNoFile: as without a server; Deps tell the last stamp.
func TestNoFile(t *testing.T) {
	w := world.New()
	d := &desk{t: t, w: w, s: stub.New(w)}
	never := d.begin(hostOf("a"))
	w.Put("/etc/hosts", nil)
	w.Put(setupPath, []byte(one))
	w.Remove(setupPath)
	gone := d.begin(addrOf(s1))
	w.Put(setupPath, nil)
	never.expectPoll("P16.1 a file that never was", "[] [] 0 0; [{/etc/resolv 0}]; dns: unavailable; true")
	gone.expectPoll("P16.1 a file that was removed", "[] [] 0 0; [{/etc/resolv 3}]; dns: unavailable; true")
	d.expectSent("P16.1 no file", "")
}

// TestSettingsAtBegin: a lookup reads its settings when it begins, each lookup anew.
func TestSettingsAtBegin(t *testing.T) {
	d := open(t, one+"options timeout:2 attempts:1")
	early := d.begin(hostOf("a"))
	d.w.Put(setupPath, []byte("nameserver 2.2.2.2\noptions timeout:3 attempts:4\nsearch x"))
	late := d.begin(hostOf("a"))
	d.w.Remove(setupPath)
	expect(t, "P16.1 the first", early.tick(2), waiting)
	expect(t, "P16.1 the second", late.poll(), waiting)
	d.expectSent("P16.1 each by its settings", "1.1.1.1 1 a 1, 2.2.2.2 2 a.x 1, 1.1.1.1 3 a 28")
	early.answer(0, d.record(s1+s1+s1+s1, 7))
	early.expectPoll("P16.1 the stamp when it began", found("a", "101:101:101:101:101:101:101:101", 7))
	expect(t, "P16.1 the second", late.tick(1), waiting)
	d.expectSent("P16.1 the second goes on", "2.2.2.2 4 a.x 1")
	late.answer(3)
	late.answer(0, d.record(s2+s2+s2+s2, 9))
	late.expectPoll("P16.1 another stamp", "[a.x] [202:202:202:202:202:202:202:202] 0 9; [{/etc/resolv 2}]; <nil>; true")
}

// TestCandidates: the questions of a name whose candidates are all denied.
func TestCandidates(t *testing.T) {
	for _, c := range []struct{ name, settings, want string }{
		{"a", "", "a"},
		{"A.B", "", "a.b"},
		{"a.", "search x y", "a"},
		{"A.b.", "search x y\noptions ndots:9", "a.b"},
		{"a", "search x", "a.x a"},
		{"a.b", "search x Y.z", "a.b a.b.x a.b.y.z"},
		{"a.b", "search x y.z\noptions ndots:2", "a.b.x a.b.y.z a.b"},
		{"a", "search x x y\noptions ndots:0", "a a.x a.y"},
		{"a", "search 1 2 3 4 5 6 7", "a.1 a.2 a.3 a.4 a.5 a.6 a"},
		{"a", "search " + strings.Repeat("b", 63), "a." + strings.Repeat("b", 63) + " a"},
		{strings.Repeat("a.", 126) + "a", "search x", strings.Repeat("a.", 126) + "a"},
	} {
		d := open(t, one+c.settings)
		k := d.begin(hostOf(c.name))
		want := ""
		for i, name := range strings.Fields(c.want) {
			want += fmt.Sprintf("1.1.1.1 %d %s 1, 1.1.1.1 %d %s 28, ", 2*i+1, name, 2*i+2, name)
		}
		for range 2 * len(strings.Fields(c.want)) {
			expect(t, "P16.1 more candidates, "+c.name, k.poll(), waiting)
			k.answer(3)
		}
		k.expectPoll("P16.1 behind the last candidate, "+c.name, notFound)
		d.expectSent("P16.1 candidates of "+c.name, strings.TrimSuffix(want, ", "))
	}
}

// TestReverse: the one question of an address.
func TestReverse(t *testing.T) {
	for a, want := range map[string]string{
		"\x0a\x00\x00\xff": "255.0.0.10.in-addr.arpa",
		"gate":             "101.116.97.103.in-addr.arpa",
		"\x00\x00\x00\x00": "0.0.0.0.in-addr.arpa",
		"\xfe\x80" + strings.Repeat("\x00", 13) + "\x1f": "f.1." + strings.Repeat("0.", 26) + "0.8.e.f.ip6.arpa",
	} {
		d := open(t, one+"search x y\noptions ndots:15")
		k := d.begin(api.Query{DB: api.DAddrs, Name: a, Proto: "udp", Port: 9})
		expect(t, "P16.1 an address", k.poll(), waiting)
		d.expectSent("P16.1 an address", "1.1.1.1 1 "+want+" 12")
		k.answer(3)
		k.expectPoll("P16.1 an address that is denied", notFound)
		d.expectSent("P16.1 nothing else is asked", "")
	}
}

// TestNoOtherFields: fields that the database doesn't name say nothing.
func TestNoOtherFields(t *testing.T) {
	d := open(t, one)
	k := d.begin(api.Query{DB: api.DHosts, Name: "gate", Proto: "\xff", Port: -1})
	d.expectSent("P16.1 other fields", "1.1.1.1 1 gate 1")
	k.answer(0, d.record(s2, 1))
	k.answer(3)
	k.expectPoll("P16.1 other fields", found("gate", "2.2.2.2", 1))
}

// TestMemory: what comes in is not changed and not kept, and answers share nothing.
func TestMemory(t *testing.T) {
	d := open(t, one)
	k := d.begin(hostOf("a"))
	h := k.op.(api.Hearer)
	body := d.written(d.answerTo(-1, 0, d.record(s1, 5), d.record(s2, 5)))
	in := append(body[:len(body):len(body)], "spare"...)
	h.Hear(s1, in[:len(body)])
	expect(t, "P0.3 what was heard", string(in), string(body)+"spare")
	clear(in)
	cut := d.answerTo(-1, 0)
	cut.Cut = true
	h.Hear(s1, d.written(cut))
	body = d.written(d.answerTo(-1, 0, d.record(s1+s1+s1+s1, 6)))
	whole := append([]byte{0, byte(len(body))}, body...)
	first, rest := append(whole[:9:9], "spare"...), append(whole[9:len(whole):len(whole)], "spare"...)
	h.Bytes(0, first[:9], false)
	expect(t, "P0.3 a stream's bytes", string(first), string(whole[:9])+"spare")
	clear(first)
	h.Bytes(0, rest[:len(whole)-9], false)
	expect(t, "P0.3 a stream's other bytes", string(rest), string(whole[9:])+"spare")
	clear(rest)
	want := found("a", "1.1.1.1 2.2.2.2 101:101:101:101:101:101:101:101", 5)
	early, earlyDeps, earlyErr, _ := k.op.Poll()
	spoilt, spoiltDeps, _, _ := k.op.Poll()
	for _, list := range [][]string{spoilt.Names, spoilt.Addrs} {
		for i := range list[:cap(list)] {
			list[:cap(list)][i] = "spoilt"
		}
	}
	for i := range spoiltDeps[:cap(spoiltDeps)] {
		spoiltDeps[:cap(spoiltDeps)][i] = api.Dep{Path: "spoilt"}
	}
	expect(t, "P0.3 answered before", told(early, earlyDeps, earlyErr, true), want)
	k.expectPoll("P0.3 answered again", want)
}

// TestOwnErrors: whoever writes into an error changes none that is told later.
func TestOwnErrors(t *testing.T) {
	d := open(t, "")
	k := d.begin(hostOf("a"))
	_, _, err, _ := k.op.Poll()
	err.(*api.SourceError).Source = "spoilt"
	k.expectPoll("P0.3 an error", unavail)
}
