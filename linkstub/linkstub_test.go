package linkstub_test

import (
	"fmt"
	"math"
	"strings"
	"testing"

	"concierge/addr"
	"concierge/api"
	"concierge/linkstub"
	"concierge/outcome"
	"concierge/source"
	"concierge/wire"
	"concierge/world"
)

// An asker is a source that tells which databases it knows.
var (
	_ api.Source = (*linkstub.Asker)(nil)
	_ api.Able   = (*linkstub.Asker)(nil)
)

// Addresses of four bytes.
const s1, s2, s3 = "\x01\x01\x01\x01", "\x02\x02\x02\x02", "\x03\x03\x03\x03"

// long is an address of 16 bytes, the last of which is this one.
func long(last byte) string { return strings.Repeat("\x00", 15) + string([]byte{last}) }

// foreign are numbers that aren't that of the database that an asker knows.
var foreign = []int{api.DAddrs, api.DServices, api.DPorts, 0, -1, 5, math.MinInt, math.MaxInt}

// hostOf is a query.
func hostOf(name string) api.Query { return api.Query{DB: api.DHosts, Name: name} }

// desk is a world and an asker in it.
type desk struct {
	t *testing.T
	w *world.World
	a *linkstub.Asker
}

func open(t *testing.T) *desk {
	w := world.New()
	return &desk{t: t, w: w, a: linkstub.New(w)}
}

// talk is a question at a desk.
type talk struct {
	*desk
	op api.Op
}

// begin: the question of that host.
func (d *desk) begin(name string) *talk {
	d.t.Helper()
	o := d.a.Begin(hostOf(name))
	if o == nil {
		d.t.Fatalf("P17.1: no question of %q", name)
	}
	return &talk{desk: d, op: o}
}

// expectSent: that many datagrams were sent, and no stream was opened.
func (d *desk) expectSent(promise string, want int) {
	d.t.Helper()
	expect(d.t, promise+": datagrams and streams", fmt.Sprint(len(d.w.Sent()), len(d.w.Streams())), fmt.Sprint(want, 0))
}

// written: a message's bytes.
func (d *desk) written(m api.Message) []byte {
	d.t.Helper()
	b, err := wire.Encode(m)
	if err != nil {
		d.t.Fatalf("%v: %v", m, err)
	}
	return b
}

// reply: a reply of that code, with these records, that repeats a question of the name a.local.
func reply(code int, records ...api.Record) api.Message {
	return api.Message{Reply: true, Code: code, Question: api.Question{Name: "a.local", Type: api.TA}, Answers: records}
}

// record of the name a.local and the type that the address has.
func record(data string, ttl int64) api.Record {
	return api.Record{Name: "a.local", Type: map[int]int{4: api.TA, 16: api.TAAAA}[len(data)], TTL: ttl, Data: data}
}

// hear: the question hears this message.
func (k *talk) hear(m api.Message) {
	k.t.Helper()
	k.op.(api.Hearer).Hear(s1, k.written(m))
}

// answer: the question hears a reply with these records.
func (k *talk) answer(records ...api.Record) {
	k.t.Helper()
	k.hear(reply(0, records...))
}

// tick: the clock goes on, and the question is polled.
func (k *talk) tick(n int64) string {
	k.w.Advance(n)
	return k.poll()
}

// poll tells in one text what the question tells.
func (k *talk) poll() string { return told(k.op.Poll()) }

// told tells in one text what Poll answers: names, addresses as they are printed, the port and life, how many Deps there are, the error and whether it is done.
func told(a api.Answer, deps []api.Dep, err error, done bool) string {
	addrs := []string{}
	for _, s := range a.Addrs {
		addrs = append(addrs, addr.Print(s))
	}
	return fmt.Sprintf("%s %s %d %d; %d; %v; %t", a.Names, addrs, a.Port, a.Life, len(deps), err, done)
}

// What questions tell.
const (
	waiting  = "[] [] 0 0; 0; <nil>; false"
	notFound = "[] [] 0 0; 0; link: not found; true"
)

// found: what a question tells that found these addresses of that name.
func found(name, addrs string, life int64) string {
	return fmt.Sprintf("[%s] [%s] 0 %d; 0; <nil>; true", name, addrs, life)
}

// expectPoll: the question tells this, as often as it is polled.
func (k *talk) expectPoll(promise, want string) {
	k.t.Helper()
	for range 3 {
		expect(k.t, promise, k.poll(), want)
	}
}

// expectEnd: when its time is over, and not ahead of that, the question tells this.
func (k *talk) expectEnd(promise, want string) {
	k.t.Helper()
	k.expectPoll(promise+": ahead of the end", waiting)
	k.w.Advance(api.Window)
	k.expectPoll(promise, want)
}

func expect(t *testing.T, promise, got, want string) {
	t.Helper()
	if got != want {
		t.Errorf("%s: got %s, want %s", promise, got, want)
	}
}

// worldless are askers that have no world.
func worldless() map[string]*linkstub.Asker {
	return map[string]*linkstub.Asker{"of no world": linkstub.New(nil), "a zero one": new(linkstub.Asker), "a nil one": nil}
}

func TestSource(t *testing.T) {
	all := worldless()
	all["in a world"] = linkstub.New(world.New())
	for why, a := range all {
		expect(t, "P17.1 "+why, a.Name(), "link")
		if !a.Able(api.DHosts) {
			t.Errorf("P17.1: %s: hosts aren't known", why)
		}
		for _, db := range foreign {
			if a.Able(db) {
				t.Errorf("P17.1: %s: Able(%d) is true", why, db)
			}
		}
	}
}

// noNames are texts that are no names.
var noNames = []string{
	"", ".", "..", "local..", ".local", "a..local", "a b.local", "a!.local", "\xff.local", "a.local\x00", "a.local#", "é.local", s1,
	strings.Repeat("a", 64) + ".local", strings.Repeat("a.", 124) + "a.local", strings.Repeat("x", 1<<20),
}

// TestNoQuestion: Begin gives nil and sends nothing.
func TestNoQuestion(t *testing.T) {
	all := worldless()
	d := open(t)
	all["in a world"] = d.a
	for why, a := range all {
		for _, db := range foreign {
			for _, name := range append(noNames, "a", "a.local", "local", "LOCAL.") {
				if o := a.Begin(api.Query{DB: db, Name: name, Proto: "tcp", Port: 53}); o != nil {
					t.Errorf("P17.1: %s: %d %.60q: %v", why, db, name, o)
				}
			}
		}
		for _, name := range noNames {
			if o := a.Begin(hostOf(name)); o != nil {
				t.Errorf("P17.1: %s: %.60q: %v", why, name, o)
			}
		}
	}
	d.expectSent("P17.1 no question", 0)
}

// distant are names that aren't of the link.
var distant = []string{
	"a", "a.b", "A.B.", "local.a", "locals", "alocal", "a.alocal", "a-local", "a_local", "a.local.b", "a.locale", "local.local.b",
	strings.Repeat("a.", 126) + "a",
}

// TestDistant: a name that isn't of the link isn't found, at once, and nobody is asked.
func TestDistant(t *testing.T) {
	for _, name := range distant {
		d := open(t)
		d.w.Advance(7)
		k := d.begin(name)
		k.expectPoll("P17.1 "+name, notFound)
		k.answer(record(s1, 5), api.Record{Name: strings.ToLower(strings.TrimSuffix(name, ".")), Type: api.TA, TTL: 5, Data: s1})
		k.op.(api.Hearer).Bytes(0, k.written(reply(0, record(s1, 5))), true)
		k.expectPoll("P17.1 "+name+": behind the end", notFound)
		expect(t, "P17.1 "+name+": later", k.tick(100), notFound)
		d.expectSent("P17.1 "+name, 0)
	}
	// Without a world it is the same.
	for why, a := range worldless() {
		expect(t, "P17.1 "+why, told(a.Begin(hostOf("a.b")).Poll()), notFound)
	}
}

// TestAsked: the two datagrams, byte for byte, and nothing behind them.
func TestAsked(t *testing.T) {
	for name, coded := range map[string]string{
		"local":                             "\x05local\x00",
		"local.":                            "\x05local\x00",
		"LoCaL":                             "\x05local\x00",
		"a.local":                           "\x01a\x05local\x00",
		"Gate-1_x.LOCAL.":                   "\x08gate-1_x\x05local\x00",
		"local.local":                       "\x05local\x05local\x00",
		"b.a.local":                         "\x01b\x01a\x05local\x00",
		strings.Repeat("A.", 124) + "local": strings.Repeat("\x01a", 124) + "\x05local\x00",
		strings.Repeat("z", 63) + ".local":  "\x3f" + strings.Repeat("z", 63) + "\x05local\x00",
	} {
		d := open(t)
		k := &talk{desk: d, op: d.a.Begin(api.Query{DB: api.DHosts, Name: name, Proto: "\xff", Port: -1})}
		for i, kind := range []string{"\x00\x01", "\x00\x1c"} {
			sent := d.w.Sent()[i]
			want := "\x00\x00\x00\x00\x00\x01\x00\x00\x00\x00\x00\x00" + coded + kind + "\x00\x01"
			if sent.To != "" || !sent.Link || string(sent.Body) != want {
				t.Errorf("P17.1: %q: the datagram %d: %v, want %q", name, i, sent, want)
			}
		}
		d.expectSent("P17.1 asked", 2)
		for range 5 {
			k.poll()
			k.answer(record(s1, 5))
			k.tick(1)
		}
		d.expectSent("P17.1 asked once", 2)
	}
}

// TestWindow: the question is over at a Poll behind three ticks, whenever it began and however often it is polled.
func TestWindow(t *testing.T) {
	for _, began := range []int64{0, 1, 2, 3, 100, 1<<60 - 3} {
		for _, heard := range []bool{false, true} {
			want := notFound
			d := open(t)
			d.w.Advance(began)
			k := d.begin("a.local")
			if heard {
				k.answer(record(s1, 5))
				want = found("a.local", "1.1.1.1", 5)
			}
			promise := fmt.Sprintf("P17.1 begun at %d, heard %t", began, heard)
			for range 3 {
				k.expectPoll(promise, waiting)
				d.w.Advance(1)
			}
			k.expectPoll(promise, want)
			expect(t, promise+": later", k.tick(1000), want)
		}
	}
	for _, late := range []int64{3, 4, 10, 1 << 50} {
		k := open(t).begin("a.local")
		expect(t, "P17.1 late", k.tick(late), notFound)
	}
	// The clock stops, and so the question goes on.
	d := open(t)
	d.w.Advance(1<<60 - 2)
	k := d.begin("a.local")
	expect(t, "P17.1 a clock that stops", k.tick(1<<60), waiting)
}

// TestHeardUntilPoll: what comes behind the time, but ahead of the Poll that ends it, counts; what comes behind that doesn't.
func TestHeardUntilPoll(t *testing.T) {
	for _, late := range []int64{0, 1, 2, 3, 4, 50} {
		k := open(t).begin("a.local")
		k.w.Advance(late)
		k.answer(record(s1, 9))
		k.w.Advance(3)
		k.answer(record(s2, 7))
		want := found("a.local", "1.1.1.1 2.2.2.2", 7)
		k.expectPoll("P17.1 ahead of the Poll", want)
		k.answer(record(s3, 5), record(s1, 1))
		k.answer()
		k.expectPoll("P17.1 behind the end", want)
		expect(t, "P17.1 behind the end, later", k.tick(50), want)
	}
	k := open(t).begin("a.local")
	expect(t, "P17.1 nothing came", k.tick(3), notFound)
	k.answer(record(s1, 9))
	k.expectPoll("P17.1 nothing came, ahead of the end", notFound)
}

// TestNoWorld: without a world a question is begun, nobody hears it, and no clock ends it.
func TestNoWorld(t *testing.T) {
	for why, a := range worldless() {
		k := &talk{desk: &desk{t: t, a: a}, op: a.Begin(hostOf("a.local"))}
		k.expectPoll("P17.1 "+why, waiting)
		k.answer(record(s1, 5))
		k.op.(api.Hearer).Bytes(0, nil, true)
		k.expectPoll("P17.1 "+why, waiting)
	}
}

// TestErrors: what is not found is an error of that code, wrapped for link, and a new one each time.
func TestErrors(t *testing.T) {
	for _, name := range []string{"a", "a.local"} {
		k := open(t).begin(name)
		k.w.Advance(3)
		_, _, err, _ := k.op.Poll()
		wrapped, ok := err.(*api.SourceError)
		if !ok || wrapped.Source != "link" || wrapped.Err != error(api.NotFound) {
			t.Fatalf("P17.1: %s: %#v", name, err)
		}
		wrapped.Source = "spoilt"
		k.expectPoll("P0.3 an error", notFound)
	}
}

// TestThroughSource: as a source it is called like the others.
func TestThroughSource(t *testing.T) {
	d := open(t)
	r := source.New()
	r.Put(d.a)
	a, _ := r.Get("link")
	for _, q := range []api.Query{{DB: api.DAddrs, Name: s1}, {DB: api.DHosts, Name: "!"}} {
		o, err := source.Begin(a, q)
		if o != nil || outcome.Of(err) != api.Unavail || outcome.Source(err) != "link" {
			t.Errorf("P17.1: %v: %v, %v", q, o, err)
		}
	}
	o, err := source.Begin(a, hostOf("A.Local."))
	if err != nil {
		t.Fatal(err)
	}
	if !source.Hear(o, s1, d.written(reply(0, record(s1, 5)))) || !source.Bytes(o, 0, []byte("x"), true) {
		t.Error("P17.1: it doesn't hear")
	}
	d.w.Advance(3)
	expect(t, "P17.1 a source", told(source.Poll("link", o)), found("a.local", "1.1.1.1", 5))
}

// TestTwo: each question of an asker has its own name, its own time, and hears for itself.
func TestTwo(t *testing.T) {
	d := open(t)
	first := d.begin("a.local")
	d.w.Advance(2)
	second := d.begin("b.local")
	other := record(s2, 6)
	other.Name = "b.local"
	first.answer(record(s1, 5), other)
	expect(t, "P17.1 the first", first.tick(1), found("a.local", "1.1.1.1", 5))
	expect(t, "P17.1 the second", second.tick(1), waiting)
	second.answer(record(s1, 5), other)
	expect(t, "P17.1 the second", second.tick(1), found("b.local", "2.2.2.2", 6))
	first.expectPoll("P17.1 the first", found("a.local", "1.1.1.1", 5))
	third := d.begin("a.local")
	third.expectEnd("P17.1 the same name again", notFound)
	d.expectSent("P17.1 three questions", 6)
}
