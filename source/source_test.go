package source_test

import (
	"errors"
	"fmt"
	"math"
	"strings"
	"testing"

	"concierge/api"
	"concierge/filesdb"
	"concierge/outcome"
	"concierge/source"
	"concierge/world"
)

// throws are panics of each sort.
var throws = []func(){
	func() { panic("a text") },
	func() { panic(nil) },
	func() { panic(7) },
	func() { panic(api.NotFound) },
	func() { panic(error(&api.SourceError{Source: "other", Err: api.Busy})) },
	func() { panic(errors.New("an error")) },
	func() { panic(func() {}) },
	func() { var m map[int]int; m[0] = 1 },
	func() { var s []int; s[len(throwNothing)]++ },
	func() { var p *int; *p = 1 },
	func() { var e error; _ = e.Error() },
	func() { panic([]int{1}) },
	func() { defer func() { panic("again") }(); panic("first") },
}

const throwNothing = ""

// script is a source that does as it is told, and writes down what it was asked.
type script struct {
	name                             string
	op                               api.Op
	throwName, throwBegin, throwAble func()
	asked                            string
}

func (s *script) Name() string {
	if s.throwName != nil {
		s.throwName()
	}
	return s.name
}

func (s *script) Begin(q api.Query) api.Op {
	s.asked += fmt.Sprintf("begin %v;", q)
	if s.throwBegin != nil {
		s.throwBegin()
	}
	return s.op
}

// choosy is such a source that knows just some databases.
type choosy struct {
	script
	dbs []int
}

func (c *choosy) Able(db int) bool {
	c.asked += fmt.Sprintf("able %d;", db)
	if c.throwAble != nil {
		c.throwAble()
	}
	for _, known := range c.dbs {
		if known == db {
			return true
		}
	}
	return false
}

// almost has a method Able that is another one.
type almost struct{ script }

func (a *almost) Able() bool { return false }

// fixed is an Op that tells what it is told to, again and again.
type fixed struct {
	answer api.Answer
	deps   []api.Dep
	err    error
	done   bool
	throw  func()
	polled int
}

func (f *fixed) Poll() (api.Answer, []api.Dep, error, bool) {
	f.polled++
	if f.throw != nil {
		f.throw()
	}
	return f.answer, f.deps, f.err, f.done
}

// idle is an Op that is never done, a nil one neither.
type idle struct{}

func (*idle) Poll() (api.Answer, []api.Dep, error, bool) { return api.Answer{}, nil, nil, false }

// isUnavail: err is an Unavail, wrapped just for that name.
func isUnavail(t *testing.T, promise string, err error, name string) {
	t.Helper()
	e, ok := err.(*api.SourceError)
	if !ok || e == nil || e.Source != name || e.Err != api.Unavail {
		t.Errorf("%s: got the error %v, want an Unavail of %.20q", promise, err, name)
	}
	if outcome.Of(err) != api.Unavail || outcome.Source(err) != name {
		t.Errorf("%s: the error is read as %v of %.20q", promise, outcome.Of(err), outcome.Source(err))
	}
}

// begun: s begins q with the Op o.
func begun(t *testing.T, promise string, s api.Source, q api.Query, o api.Op) {
	t.Helper()
	if got, err := source.Begin(s, q); got != o || err != nil {
		t.Errorf("%s: Begin: %v, %v", promise, got, err)
	}
}

// refused: s doesn't begin q, and the error is that of name.
func refused(t *testing.T, promise string, s api.Source, q api.Query, name string) {
	t.Helper()
	got, err := source.Begin(s, q)
	if got != nil {
		t.Errorf("%s: Begin: an Op %v", promise, got)
	}
	isUnavail(t, promise, err, name)
}

// queries are queries of each database, and ones of none; whether they are right is nothing to a source's caller.
var queries = []api.Query{
	{DB: api.DHosts, Name: "gate"},
	{DB: api.DAddrs, Name: "\x0a\x00\x00\x01"},
	{DB: api.DServices, Name: "domain", Proto: "udp"},
	{DB: api.DPorts, Port: 53, Proto: "tcp"},
	{},
	{DB: 5, Name: "!", Proto: "\xff", Port: -1},
	{DB: -1, Port: math.MinInt},
	{DB: math.MaxInt, Port: math.MaxInt, Name: strings.Repeat("n", 1000)},
	{DB: 1<<32 + 1},
}

func TestBegin(t *testing.T) {
	var none *fixed
	for _, o := range []api.Op{&fixed{}, &idle{}, none, &ear{}} {
		for _, q := range queries {
			for _, name := range []string{"dns", "", "\xff", strings.Repeat("x", 100)} {
				s := &script{name: name, op: o}
				begun(t, "P12.2", s, q, o)
				expect(t, "P12.2 what it was asked", s.asked, fmt.Sprintf("begin %v;", q))
				a := &almost{script{name: name, op: o}}
				begun(t, "P12.2 a source with another Able", a, q, o)
				c := &choosy{script: script{name: name, op: o}, dbs: []int{7, q.DB}}
				begun(t, "P12.2 a source that knows it", c, q, o)
				expect(t, "P12.2 what an Able was asked", c.asked, fmt.Sprintf("able %d;begin %v;", q.DB, q))
			}
		}
	}
}

// TestBeginUnable: a source that doesn't know the database is not asked.
func TestBeginUnable(t *testing.T) {
	for _, known := range [][]int{nil, {api.DHosts}, {api.DAddrs, api.DPorts}, {api.DServices, 5, -1, 0}} {
		for _, q := range queries {
			c := &choosy{script: script{name: "link", op: &fixed{}}, dbs: known}
			if c.Able(q.DB) {
				continue
			}
			c.asked, c.throwBegin = "", throws[0]
			refused(t, "P12.2 a source that doesn't know it", c, q, "link")
			expect(t, "P12.2 what it was asked", c.asked, fmt.Sprintf("able %d;", q.DB))
		}
	}
}

// TestBeginNothing: no source, or none that gives an Op.
func TestBeginNothing(t *testing.T) {
	for _, q := range queries {
		refused(t, "P12.2 nil", nil, q, "")
		for _, name := range []string{"dns", "", "a b"} {
			refused(t, "P12.2 a nil Op", &script{name: name}, q, name)
			refused(t, "P12.2 a nil Op of an Able", &choosy{script: script{name: name}, dbs: []int{q.DB}}, q, name)
		}
		var none *script
		refused(t, "P12.2 a source that is a nil pointer", none, q, "")
		refused(t, "P12.2 a list without its name", value{}, q, "")
		refused(t, "P12.2 a list", value{"v"}, q, "v")
	}
}

func TestBeginPanics(t *testing.T) {
	q := queries[0]
	for k, throw := range throws {
		why := fmt.Sprintf("P12.2 panic %d of ", k)
		refused(t, why+"Begin", &script{name: "dns", op: &fixed{}, throwBegin: throw}, q, "dns")
		refused(t, why+"Begin, without a name", &script{op: &fixed{}, throwBegin: throw}, q, "")
		refused(t, why+"Name", &script{name: "dns", op: &fixed{}, throwName: throw}, q, "")
		refused(t, why+"all", &script{name: "dns", op: &fixed{}, throwName: throw, throwBegin: throw}, q, "")
		able := &choosy{script: script{name: "link", op: &fixed{}, throwAble: throw}, dbs: []int{q.DB}}
		refused(t, why+"Able", able, q, "link")
		expect(t, "P12.2 what it was asked", able.asked, fmt.Sprintf("able %d;", q.DB))
		begins := &choosy{script: script{name: "link", op: &fixed{}, throwBegin: throw}, dbs: []int{q.DB}}
		refused(t, why+"the Begin of an Able", begins, q, "link")
	}
}

// told tells what Poll answers in one text.
func told(a api.Answer, deps []api.Dep, err error, done bool) string {
	return fmt.Sprintf("%q %q %d %d; %v; %v; %t", a.Names, a.Addrs, a.Port, a.Life, deps, err, done)
}

// poll: Poll's answer in one text.
func poll(name string, o api.Op) string { return told(source.Poll(name, o)) }

// full is an answer with all fields, and deps some files.
var (
	full = api.Answer{Names: []string{"gate", "gate.example"}, Addrs: []string{"\x0a\x00\x00\x01"}, Port: 53, Life: 600}
	deps = []api.Dep{{Path: "/etc/hosts", Stamp: 4}, {Path: "/etc/services", Stamp: 1}}
)

// nothing is what Poll answers of what is not done.
const nothing = `[] [] 0 0; []; <nil>; false`

func TestPoll(t *testing.T) {
	for _, name := range []string{"dns", "", "\xff"} {
		expect(t, "P12.2 found", poll(name, &fixed{answer: full, deps: deps, done: true}), told(full, deps, nil, true))
		expect(t, "P12.2 an empty answer", poll(name, &fixed{done: true}), told(api.Answer{}, nil, nil, true))
		negative := api.Answer{Port: -5, Life: math.MinInt64}
		expect(t, "P12.2 an odd answer", poll(name, &fixed{answer: negative, done: true}), told(negative, nil, nil, true))
	}
	o := &fixed{answer: full, deps: deps, done: true}
	for i := 1; i <= 3; i++ {
		expect(t, "P12.2 again", poll("dns", o), told(full, deps, nil, true))
		expect(t, "P12.2 how often it was polled", o.polled, i)
	}
}

// TestPollErrors: errors are wrapped for the name; what else the Op tells is told beside them.
func TestPollErrors(t *testing.T) {
	failures := []error{errors.New("plain"), &api.TextError{Line: 3, Col: 4, Err: api.BadText}, fmt.Errorf("deep: %w", api.Busy), errors.Join(api.Full, api.TryAgain)}
	for c := api.Code(-1); c <= 12; c++ {
		failures = append(failures, c, &api.SourceError{Source: "inner", Err: c})
	}
	for _, name := range []string{"dns", "", "inner"} {
		for _, failure := range failures {
			for _, a := range []api.Answer{{}, full} {
				got, gotDeps, err, done := source.Poll(name, &fixed{answer: a, deps: deps, err: failure, done: true})
				expect(t, "P12.2 beside an error", told(got, gotDeps, nil, done), told(a, deps, nil, true))
				e, ok := err.(*api.SourceError)
				if !ok || e == nil || e.Source != name || e.Err != failure {
					t.Errorf("P12.2: %v of %q: %v", failure, name, err)
				}
				if !errors.Is(err, failure) || outcome.Of(err) != outcome.Of(failure) || outcome.Source(err) != name {
					t.Errorf("P12.2: %v of %q is read as %v of %q", failure, name, outcome.Of(err), outcome.Source(err))
				}
			}
		}
	}
	_, _, err, _ := source.Poll("dns", &fixed{err: failures[1], done: true})
	line, col, ok := outcome.Place(err)
	expect(t, "P12.2 a place", fmt.Sprint(line, col, ok), "3 4 true")
}

// TestPollErrorsOdd: an error isn't asked for anything when it is wrapped.
func TestPollErrorsOdd(t *testing.T) {
	var none *api.SourceError
	for _, odd := range []error{none, &api.SourceError{}, &api.TextError{}} {
		_, _, err, done := source.Poll("dns", &fixed{err: odd, done: true})
		if e, ok := err.(*api.SourceError); !done || !ok || e == nil || e.Source != "dns" || e.Err != odd {
			t.Errorf("P12.2: an odd error: %T, %t", err, done)
		}
	}
}

// TestPollNotDone: nothing is told of an Op that is not done, whatever it tells.
func TestPollNotDone(t *testing.T) {
	o := &fixed{}
	expect(t, "P12.2 not done", poll("dns", o), nothing)
	o.answer, o.deps = full, deps
	expect(t, "P12.2 not done, with an answer", poll("dns", o), nothing)
	o.err = api.NotFound
	expect(t, "P12.2 not done, with an error", poll("dns", o), nothing)
	o.err = &api.SourceError{Source: "inner", Err: api.Full}
	expect(t, "P12.2 not done, with another error", poll("dns", o), nothing)
	o.err, o.done = nil, true
	expect(t, "P12.2 done then", poll("dns", o), told(full, deps, nil, true))
	var none *idle
	expect(t, "P12.2 a nil pointer that is never done", poll("dns", none), nothing)
}

func TestPollPanics(t *testing.T) {
	var none *fixed
	ops := []api.Op{nil, none}
	for _, throw := range throws {
		for _, done := range []bool{false, true} {
			ops = append(ops, &fixed{answer: full, deps: deps, err: api.Busy, done: done, throw: throw})
		}
	}
	for k, o := range ops {
		for _, name := range []string{"dns", "", strings.Repeat("x", 1000)} {
			for range 2 {
				a, gotDeps, err, done := source.Poll(name, o)
				expect(t, fmt.Sprintf("P12.2 the panic %d", k), told(a, gotDeps, nil, done), told(api.Answer{}, nil, nil, true))
				isUnavail(t, "P12.2 a panic", err, name)
			}
		}
	}
}

// spoil writes into the lists of an answer, and into their spare room.
func spoil(a api.Answer, deps []api.Dep) {
	for _, list := range [][]string{a.Names[:cap(a.Names)], a.Addrs[:cap(a.Addrs)]} {
		for i := range list {
			list[i] = "spoilt"
		}
	}
	deps = deps[:cap(deps)]
	for i := range deps {
		deps[i] = api.Dep{Path: "spoilt", Stamp: -1}
	}
}

// TestPollOwnMemory: an Op that tells the same lists again and again has them changed by nobody; no two lists told are one.
func TestPollOwnMemory(t *testing.T) {
	room := []string{"a", "b", "c", "d", "e"}
	files := []api.Dep{{Path: "/a", Stamp: 1}, {Path: "/b", Stamp: 2}, {Path: "/c", Stamp: 3}}
	for n := range 4 {
		for _, err := range []error{nil, api.NotFound} {
			o := &fixed{answer: api.Answer{Names: room[:n], Addrs: room[:n+1], Port: 1}, deps: files[:n], err: err, done: true}
			want := poll("dns", o)
			a, d, _, _ := source.Poll("dns", o)
			earlier := poll("dns", o)
			spoil(api.Answer{Names: a.Names}, d)
			expect(t, "P0.3 the list beside it", a.Addrs, room[:n+1])
			spoil(a, d)
			expect(t, "P0.3 polled again", poll("dns", o), want)
			expect(t, "P0.3 polled before", earlier, want)
		}
	}
	expect(t, "P0.3 what the Op keeps", fmt.Sprint(room, files), "[a b c d e] [{/a 1} {/b 2} {/c 3}]")
}

// ear is an Op that hears: it writes down what it hears, keeps it and writes into it.
type ear struct {
	idle
	heard string
	kept  [][]byte
	throw func()
}

func (e *ear) keep(what string, body []byte) {
	e.heard += fmt.Sprintf("%s %q %t;", what, body, body == nil)
	e.kept = append(e.kept, body)
	body = body[:cap(body)]
	for i := range body {
		body[i] = '!'
	}
	if e.throw != nil {
		e.throw()
	}
}

func (e *ear) Hear(from string, body []byte) { e.keep(fmt.Sprintf("hear %q", from), body) }

func (e *ear) Bytes(stream int, body []byte, end bool) {
	e.keep(fmt.Sprintf("bytes %d %t", stream, end), body)
}

// halfEar has one of a hearer's methods, otherEar both with other words.
type halfEar struct{ idle }

func (*halfEar) Hear(string, []byte) { panic("asked") }

type otherEar struct{ idle }

func (*otherEar) Hear(string, string)     { panic("asked") }
func (*otherEar) Bytes(int, []byte, bool) { panic("asked") }

func TestHear(t *testing.T) {
	for _, from := range []string{"", "\x0a\x00\x00\x01", "fe80", "\xff", strings.Repeat("f", 300)} {
		for _, body := range []string{"", "x", "some body", "\x00\xff", strings.Repeat("b", 5000)} {
			e := &ear{}
			expect(t, "P12.2 Hear", source.Hear(e, from, []byte(body)), true)
			expect(t, "P12.2 what was heard", e.heard, fmt.Sprintf("hear %q %q false;", from, body))
		}
	}
}

func TestBytes(t *testing.T) {
	for _, stream := range []int{0, 1, 3, -1, 1 << 32, math.MaxInt, math.MinInt} {
		for _, body := range []string{"", "x", "some body", "\x00\xff", strings.Repeat("b", 5000)} {
			for _, end := range []bool{false, true} {
				e := &ear{}
				expect(t, "P12.2 Bytes", source.Bytes(e, stream, []byte(body), end), true)
				expect(t, "P12.2 what was heard", e.heard, fmt.Sprintf("bytes %d %t %q false;", stream, end, body))
			}
		}
	}
}

func TestHearInTurn(t *testing.T) {
	e := &ear{}
	source.Hear(e, "a", []byte("1"))
	source.Bytes(e, 2, []byte("2"), false)
	source.Bytes(e, 2, nil, true)
	source.Hear(e, "b", []byte("3"))
	expect(t, "P12.2 heard in turn", e.heard, `hear "a" "1" false;bytes 2 false "2" false;bytes 2 true "" false;hear "b" "3" false;`)
}

// TestDeaf: an Op that is no hearer, and none at all.
func TestDeaf(t *testing.T) {
	var noFixed *fixed
	for k, o := range []api.Op{nil, &fixed{}, noFixed, &idle{}, &halfEar{}, &otherEar{}} {
		for _, body := range [][]byte{nil, {}, []byte("body")} {
			expect(t, fmt.Sprintf("P12.2 Hear of the deaf %d", k), source.Hear(o, "a", body), false)
			expect(t, fmt.Sprintf("P12.2 Bytes of the deaf %d", k), source.Bytes(o, 1, body, true), false)
		}
	}
	if o := (&fixed{done: true}); source.Hear(o, "a", nil) || source.Bytes(o, 1, nil, true) || o.polled != 0 {
		t.Error("P12.2: an Op that doesn't hear was polled")
	}
}

func TestHearPanics(t *testing.T) {
	for k, throw := range throws {
		e := &ear{throw: throw}
		for range 2 {
			expect(t, fmt.Sprintf("P12.2 Hear, panic %d", k), source.Hear(e, "a", []byte("1")), true)
			expect(t, fmt.Sprintf("P12.2 Bytes, panic %d", k), source.Bytes(e, 1, []byte("2"), true), true)
		}
		expect(t, "P12.2 it heard nevertheless", strings.Repeat(`hear "a" "1" false;bytes 1 true "2" false;`, 2), e.heard)
	}
	var none *ear
	expect(t, "P12.2 Hear of a nil pointer that panics", source.Hear(none, "a", nil), true)
	expect(t, "P12.2 Bytes of a nil pointer that panics", source.Bytes(none, 1, nil, false), true)
}

// TestBodies: a body that is handed in is neither changed nor kept, its spare room neither.
func TestBodies(t *testing.T) {
	calls := map[string]func(o api.Op, body []byte) bool{
		"Hear":  func(o api.Op, body []byte) bool { return source.Hear(o, "a", body) },
		"Bytes": func(o api.Op, body []byte) bool { return source.Bytes(o, 1, body, false) },
	}
	for name, call := range calls {
		for n := range 9 {
			room := []byte("abcdefgh")
			e := &ear{}
			call(e, room[:n])
			expect(t, "P0.3 the body behind "+name, string(room), "abcdefgh")
			for i := range room {
				room[i] = '?'
			}
			expect(t, "P0.3 what the Op keeps behind "+name, string(e.kept[0]), strings.Repeat("!", n))
			call(e, room[:n])
			e.kept[0] = append(e.kept[0], "more"...)
			expect(t, "P0.3 what the Op keeps of the next "+name, string(e.kept[1]), strings.Repeat("!", n))
		}
		nilBody, empty := &ear{}, &ear{}
		call(nilBody, nil)
		call(empty, []byte{})
		expect(t, "P0.4 a nil body of "+name, nilBody.heard, empty.heard)
	}
}

// TestFiles: a source of the program, from a registry to its answer.
func TestFiles(t *testing.T) {
	w := world.New()
	w.Put("/etc/hosts", []byte("10.0.0.1 gate\n"))
	r := source.New()
	r.Put(filesdb.New(w))
	s, _ := r.Get("files")
	for _, c := range []struct {
		q    api.Query
		want string
	}{
		{api.Query{DB: api.DHosts, Name: "gate"}, `[] ["\n\x00\x00\x01"] 0 600; [{/etc/hosts 1}]; <nil>; true`},
		{api.Query{DB: api.DHosts, Name: "other"}, `[] [] 0 0; [{/etc/hosts 1}]; files: not found; true`},
		{api.Query{DB: api.DPorts, Port: 53}, `[] [] 0 0; [{/etc/services 0}]; files: unavailable; true`},
	} {
		o, err := source.Begin(s, c.q)
		if err != nil {
			t.Fatal(err)
		}
		expect(t, "P12.2 of files", poll("files", o), c.want)
		expect(t, "P12.2 files don't hear", source.Hear(o, "a", nil) || source.Bytes(o, 1, nil, true), false)
	}
	refused(t, "P12.2 files don't know it", s, api.Query{DB: 5}, "files")
}
