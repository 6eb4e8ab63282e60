package filesdb_test

import (
	"errors"
	"fmt"
	"math"
	"slices"
	"strings"
	"testing"

	"concierge/api"
	"concierge/filesdb"
	"concierge/hosttab"
	"concierge/svctab"
	"concierge/world"
)

const (
	hostsPath    = "/etc/hosts"
	servicesPath = "/etc/services"
)

// Two tables whose rows share names, addresses and ports.
const (
	hostsBody    = "10.0.0.1 Gate gate.example\n10.0.0.2 ! GATE. two\n::1 six gate\n10.0.0.1 again\n10.0.0.3\nlost 10.0.0.4\n"
	servicesBody = "domain 53/tcp dns\ndomain 53/UDP Resolve ! dns\nshell 514/tcp cmd\nsyslog 514/udp\nlast 65535/dccp\nnone 0/tcp\n"
)

// one is the address ::1.
var one = strings.Repeat("\x00", 15) + "\x01"

// tell tells what a question was answered in one text.
func tell(a api.Answer, deps []api.Dep, err error) string {
	return fmt.Sprintf("%q %q %d %d; %v; %v", a.Names, a.Addrs, a.Port, a.Life, deps, err)
}

// look tells what Look answers in one text, and how often a table was parsed until then.
func look(d *filesdb.DB, q api.Query) string {
	return tell(d.Look(q)) + fmt.Sprint("; ", d.Reads())
}

func expect(t *testing.T, promise, got, want string) {
	t.Helper()
	if got != want {
		t.Errorf("%s: got %s, want %s", promise, got, want)
	}
}

// both is a world with both tables, /etc/hosts at the stamp 1 and /etc/services at 2.
func both() *world.World {
	w := world.New()
	w.Put(hostsPath, []byte(hostsBody))
	w.Put(servicesPath, []byte(servicesBody))
	return w
}

// show tells a query in one text, of long ones the beginning.
func show(q api.Query) string {
	return fmt.Sprintf("%d %.60q %.60q %d", q.DB, q.Name, q.Proto, q.Port)
}

// hostOf, addrOf, serviceOf and portOf are queries.
func hostOf(name string) api.Query { return api.Query{DB: api.DHosts, Name: name} }
func addrOf(a string) api.Query    { return api.Query{DB: api.DAddrs, Name: a} }
func serviceOf(name, proto string) api.Query {
	return api.Query{DB: api.DServices, Name: name, Proto: proto}
}
func portOf(port int, proto string) api.Query {
	return api.Query{DB: api.DPorts, Port: port, Proto: proto}
}

// found: queries of each database that the tables answer, and what Names, Addrs, Port they get.
var found = []struct {
	q    api.Query
	want string
}{
	{hostOf("gate"), `[] ["\n\x00\x00\x01" "\n\x00\x00\x02" "\x00\x00\x00\x00\x00\x00\x00\x00\x00\x00\x00\x00\x00\x00\x00\x01"] 0`},
	{hostOf("GATE"), `[] ["\n\x00\x00\x01" "\n\x00\x00\x02" "\x00\x00\x00\x00\x00\x00\x00\x00\x00\x00\x00\x00\x00\x00\x00\x01"] 0`},
	{hostOf("Gate.Example."), `[] ["\n\x00\x00\x01"] 0`},
	{hostOf("two"), `[] ["\n\x00\x00\x02"] 0`},
	{hostOf("again"), `[] ["\n\x00\x00\x01"] 0`},
	{addrOf("\x0a\x00\x00\x01"), `["gate" "gate.example"] [] 0`},
	{addrOf("\x0a\x00\x00\x02"), `["gate" "two"] [] 0`},
	{addrOf(one), `["six" "gate"] [] 0`},
	{serviceOf("domain", ""), `[] [] 53`},
	{serviceOf("dns", "tcp"), `[] [] 53`},
	{serviceOf("dns", "UDP"), `[] [] 53`},
	{serviceOf("Resolve", "udp"), `[] [] 53`},
	{serviceOf("cmd", ""), `[] [] 514`},
	{serviceOf("syslog", "Udp"), `[] [] 514`},
	{serviceOf("last", "dccp"), `[] [] 65535`},
	{portOf(53, ""), `["domain" "dns"] [] 53`},
	{portOf(53, "TCP"), `["domain" "dns"] [] 53`},
	{portOf(53, "udp"), `["domain" "Resolve" "dns"] [] 53`},
	{portOf(514, ""), `["shell" "cmd"] [] 514`},
	{portOf(514, "udp"), `["syslog"] [] 514`},
	{portOf(65535, "DCCP"), `["last"] [] 65535`},
}

// nothing: queries of each database that the tables don't answer, those among them that query.Check takes and others.
var nothing = []api.Query{
	hostOf("lost"), hostOf("example"), hostOf("gat"), hostOf("gate.exampl"), hostOf("10.0.0.3"),
	hostOf(""), hostOf("."), hostOf("!"), hostOf("gate.."), hostOf(" gate"), hostOf("gate\x00"), hostOf("\xff"), hostOf("\x0a\x00\x00\x01"),
	hostOf(strings.Repeat("gate.", 1<<18)),
	addrOf("\x0a\x00\x00\x03"), addrOf("\x0a\x00\x00\x04"), addrOf(one[:15] + "\x02"),
	addrOf(""), addrOf("gate"), addrOf("10.0.0.1"), addrOf("\x0a\x00\x00"), addrOf("\x0a\x00\x00\x01\x00"), addrOf(one[1:]), addrOf(strings.Repeat("\x00", 1<<20)),
	serviceOf("none", ""), serviceOf("Domain", ""), serviceOf("resolve", ""), serviceOf("shell", "udp"), serviceOf("domain", "dccp"), serviceOf("gate", ""),
	serviceOf("", ""), serviceOf("", "tcp"), serviceOf("!", ""), serviceOf("domain ", ""), serviceOf("domain", " "), serviceOf("domain", "tcp\x00"), serviceOf("domain", "53/tcp"),
	serviceOf(strings.Repeat("d", 1<<20), ""), serviceOf("domain", strings.Repeat("t", 1<<20)),
	portOf(1, ""), portOf(65534, ""), portOf(53, "dccp"), portOf(514, "sctp"),
	portOf(0, ""), portOf(0, "tcp"), portOf(-1, ""), portOf(-53, ""), portOf(65536, ""), portOf(65536+53, ""), portOf(1<<32+53, "tcp"), portOf(math.MinInt, ""), portOf(math.MaxInt, ""),
	portOf(53, " "), portOf(53, "*"), portOf(53, "\xff"),
}

// all: the queries of both.
func all() []api.Query {
	queries := slices.Clone(nothing)
	for _, c := range found {
		queries = append(queries, c.q)
	}
	return queries
}

// foreign: numbers that are no database.
var foreign = []int{math.MinInt, -2, -1, 0, 5, 6, 257, 1<<32 + 1, math.MaxInt}

// depOf: the file that a query of a database hangs on, and its stamp in the world of both.
func depOf(db int) string {
	if db == api.DHosts || db == api.DAddrs {
		return "[{/etc/hosts 1}]"
	}
	return "[{/etc/services 2}]"
}

// first is what look tells of the first query that is asked in the world of both, if it finds want.
func first(q api.Query, want string) string {
	return want + " 600; " + depOf(q.DB) + "; <nil>; 1"
}

func TestFound(t *testing.T) {
	for _, c := range found {
		expect(t, "P8.1 "+show(c.q), look(filesdb.New(both()), c.q), first(c.q, c.want))
	}
}

func TestNothing(t *testing.T) {
	for _, q := range nothing {
		d := filesdb.New(both())
		expect(t, "P8.1 "+show(q), look(d, q), "[] [] 0 0; "+depOf(q.DB)+"; not found; 1")
		if _, _, err := d.Look(q); !errors.Is(err, api.NotFound) {
			t.Errorf("P8.1 %s: %v", show(q), err)
		}
	}
}

// TestFieldsOfOthers: what a database's queries don't have is not asked.
func TestFieldsOfOthers(t *testing.T) {
	for _, c := range found {
		q := c.q
		switch q.DB {
		case api.DHosts, api.DAddrs:
			q.Proto, q.Port = "udp", 53
		case api.DServices:
			q.Port = 514
		case api.DPorts:
			q.Name = "gate"
		}
		expect(t, "P8.1 "+show(q), look(filesdb.New(both()), q), first(q, c.want))
	}
}

func TestForeignDatabases(t *testing.T) {
	for why, w := range map[string]*world.World{"both tables": both(), "no file": world.New(), "no world": nil} {
		d := filesdb.New(w)
		for _, db := range foreign {
			for _, q := range []api.Query{{DB: db}, {DB: db, Name: "gate", Proto: "tcp", Port: 53}, {DB: db, Name: one}} {
				expect(t, fmt.Sprintf("P8.1 %s, %s", why, show(q)), look(d, q), "[] [] 0 0; []; bad query; 0")
				if _, _, err := d.Look(q); !errors.Is(err, api.BadQuery) {
					t.Errorf("P8.1: %v", err)
				}
			}
		}
	}
}

func TestFilesThatAreNotThere(t *testing.T) {
	w := world.New()
	d := filesdb.New(w)
	ask := func(why, hosts, services string) {
		t.Helper()
		for _, q := range []api.Query{hostOf("gate"), hostOf("!"), addrOf("\x0a\x00\x00\x01"), addrOf("")} {
			expect(t, fmt.Sprintf("P8.1 %s, %s", why, show(q)), tell(d.Look(q)), hosts)
		}
		for _, q := range []api.Query{serviceOf("domain", ""), serviceOf("", "!"), portOf(53, "tcp"), portOf(-1, "")} {
			expect(t, fmt.Sprintf("P8.1 %s, %s", why, show(q)), tell(d.Look(q)), services)
		}
	}
	const gone = "[] [] 0 0; [{%s %d}]; unavailable"
	ask("no file", fmt.Sprintf(gone, hostsPath, 0), fmt.Sprintf(gone, servicesPath, 0))
	if _, _, err := d.Look(hostOf("gate")); !errors.Is(err, api.Unavail) {
		t.Errorf("P8.1: %v", err)
	}
	w.Remove(hostsPath)
	ask("one was removed", fmt.Sprintf(gone, hostsPath, 1), fmt.Sprintf(gone, servicesPath, 0))
	w.Put("/etc/host", []byte(hostsBody))
	w.Put("hosts", []byte(hostsBody))
	w.Put("/etc/Services", []byte(servicesBody))
	w.Append(hostsPath, []byte(hostsBody))
	w.Append(servicesPath, []byte(servicesBody))
	ask("other files", fmt.Sprintf(gone, hostsPath, 1), fmt.Sprintf(gone, servicesPath, 0))
	w.Remove(servicesPath)
	w.Remove(hostsPath)
	ask("both were removed", fmt.Sprintf(gone, hostsPath, 6), fmt.Sprintf(gone, servicesPath, 5))
	expect(t, "P8.1 Reads", fmt.Sprint(d.Reads()), "0")
}

// TestOneFileAlone: each table is answered from if the other one is not there.
func TestOneFileAlone(t *testing.T) {
	w := world.New()
	d := filesdb.New(w)
	w.Put(servicesPath, []byte(servicesBody))
	expect(t, "P8.1 services alone", look(d, portOf(514, "udp")), `["syslog"] [] 514 600; [{/etc/services 1}]; <nil>; 1`)
	expect(t, "P8.1 services alone", look(d, hostOf("two")), `[] [] 0 0; [{/etc/hosts 0}]; unavailable; 1`)
	w.Remove(servicesPath)
	w.Put(hostsPath, []byte(hostsBody))
	expect(t, "P8.1 hosts alone", look(d, portOf(514, "udp")), `[] [] 0 0; [{/etc/services 2}]; unavailable; 1`)
	expect(t, "P8.1 hosts alone", look(d, hostOf("two")), `[] ["\n\x00\x00\x02"] 0 600; [{/etc/hosts 3}]; <nil>; 2`)
}

// TestReadAnew: a table is parsed anew just if its file has another stamp.
func TestReadAnew(t *testing.T) {
	w := world.New()
	d := filesdb.New(w)
	const a = "\x01\x01\x01\x01"
	for k, c := range []struct {
		path, body string // "-" for a body: the path is removed; an empty path: nothing happens
		q          api.Query
		want       string
	}{
		{"", "", addrOf(a), "[] [] 0 0; [{/etc/hosts 0}]; unavailable; 0"},
		{hostsPath, "1.1.1.1 x", addrOf(a), `["x"] [] 0 600; [{/etc/hosts 1}]; <nil>; 1`},
		{"", "", addrOf(a), `["x"] [] 0 600; [{/etc/hosts 1}]; <nil>; 1`},
		{"", "", hostOf("x"), `[] ["\x01\x01\x01\x01"] 0 600; [{/etc/hosts 1}]; <nil>; 1`},
		{"", "", hostOf("y"), `[] [] 0 0; [{/etc/hosts 1}]; not found; 1`},
		{"", "", api.Query{DB: 5}, `[] [] 0 0; []; bad query; 1`},
		{servicesPath, "x 1/udp", addrOf(a), `["x"] [] 0 600; [{/etc/hosts 1}]; <nil>; 1`},
		{"", "", portOf(1, ""), `["x"] [] 1 600; [{/etc/services 2}]; <nil>; 2`},
		{"", "", serviceOf("x", ""), `[] [] 1 600; [{/etc/services 2}]; <nil>; 2`},
		{"/etc/passwd", "1.1.1.1 y", addrOf(a), `["x"] [] 0 600; [{/etc/hosts 1}]; <nil>; 2`},
		{hostsPath, "1.1.1.1 x", portOf(1, ""), `["x"] [] 1 600; [{/etc/services 2}]; <nil>; 2`},
		{"", "", addrOf(a), `["x"] [] 0 600; [{/etc/hosts 4}]; <nil>; 3`},
		{hostsPath, "1.1.1.1 y", api.Query{DB: 0}, `[] [] 0 0; []; bad query; 3`},
		{hostsPath, "1.1.1.1 z", addrOf(a), `["z"] [] 0 600; [{/etc/hosts 6}]; <nil>; 4`},
		{hostsPath, "-", addrOf(a), `[] [] 0 0; [{/etc/hosts 7}]; unavailable; 4`},
		{"", "", hostOf("z"), `[] [] 0 0; [{/etc/hosts 7}]; unavailable; 4`},
		{hostsPath, "-", hostOf("z"), `[] [] 0 0; [{/etc/hosts 8}]; unavailable; 4`},
		{hostsPath, "1.1.1.1 z", hostOf("z"), `[] ["\x01\x01\x01\x01"] 0 600; [{/etc/hosts 9}]; <nil>; 5`},
		{"", "", addrOf(a), `["z"] [] 0 600; [{/etc/hosts 9}]; <nil>; 5`},
		{hostsPath, "-", api.Query{DB: -1}, `[] [] 0 0; []; bad query; 5`},
		{hostsPath, "1.1.1.1 b c", addrOf(a), `["b" "c"] [] 0 600; [{/etc/hosts 11}]; <nil>; 6`},
		{hostsPath, "", addrOf(a), `[] [] 0 0; [{/etc/hosts 12}]; not found; 7`},
		{"", "", hostOf("b"), `[] [] 0 0; [{/etc/hosts 12}]; not found; 7`},
		{hostsPath, "no row", hostOf("b"), `[] [] 0 0; [{/etc/hosts 13}]; not found; 8`},
		{servicesPath, "-", serviceOf("x", ""), `[] [] 0 0; [{/etc/services 14}]; unavailable; 8`},
		{servicesPath, "y 1/udp\n\x00 2/udp", portOf(1, "udp"), `["y"] [] 1 600; [{/etc/services 15}]; <nil>; 9`},
		{"", "", serviceOf("x", ""), `[] [] 0 0; [{/etc/services 15}]; not found; 9`},
		{servicesPath, "", serviceOf("y", ""), `[] [] 0 0; [{/etc/services 16}]; not found; 10`},
	} {
		switch {
		case c.body == "-":
			w.Remove(c.path)
		case c.path != "":
			w.Put(c.path, []byte(c.body))
		}
		expect(t, fmt.Sprintf("P8.1 %d: %s", k, show(c.q)), look(d, c.q), c.want)
	}
}

// TestNewReadsNothing: a table is parsed when it is first asked for, each of them by itself.
func TestNewReadsNothing(t *testing.T) {
	w := both()
	d := filesdb.New(w)
	expect(t, "P8.1 at New", fmt.Sprint(d.Reads()), "0")
	d.Look(addrOf(one))
	expect(t, "P8.1 one of two", fmt.Sprint(d.Reads()), "1")
	d.Look(portOf(53, ""))
	expect(t, "P8.1 both", fmt.Sprint(d.Reads()), "2")
	w.Put(hostsPath, []byte("1.1.1.1 new"))
	expect(t, "P8.1 not asked for again", fmt.Sprint(d.Reads()), "2")
}

// TestApart: two of one world, and those of worlds that were one, read for themselves.
func TestApart(t *testing.T) {
	w := both()
	first, second := filesdb.New(w), filesdb.New(w)
	expect(t, "P0.5 the first one", look(first, hostOf("two")), `[] ["\n\x00\x00\x02"] 0 600; [{/etc/hosts 1}]; <nil>; 1`)
	expect(t, "P0.5 the second one", fmt.Sprint(second.Reads()), "0")
	cut := w.Cut(0)
	w.Put(hostsPath, []byte("1.1.1.1 two"))
	expect(t, "P0.5 the second one reads too", look(second, hostOf("two")), `[] ["\x01\x01\x01\x01"] 0 600; [{/etc/hosts 3}]; <nil>; 1`)
	expect(t, "P0.5 the first one reads anew", look(first, hostOf("two")), `[] ["\x01\x01\x01\x01"] 0 600; [{/etc/hosts 3}]; <nil>; 2`)
	cut.Put(hostsPath, []byte("2.2.2.2 two"))
	expect(t, "P0.5 one of a world that was cut", look(filesdb.New(cut), hostOf("two")), `[] ["\x02\x02\x02\x02"] 0 600; [{/etc/hosts 3}]; <nil>; 1`)
	expect(t, "P0.5 the first one stays", look(first, hostOf("two")), `[] ["\x01\x01\x01\x01"] 0 600; [{/etc/hosts 3}]; <nil>; 2`)
}

// TestWorldStays: a look changes nothing in the world.
func TestWorldStays(t *testing.T) {
	state := func(w *world.World) string {
		hosts, stamp, there := w.Read(hostsPath)
		services, other, here := w.Read(servicesPath)
		return fmt.Sprint(string(hosts), stamp, there, string(services), other, here, w.Now(), w.Raw(), w.Sent(), w.Streams())
	}
	w := both()
	w.Advance(9)
	d, before := filesdb.New(w), state(w)
	for _, c := range found {
		d.Look(c.q)
		d.Begin(c.q).Poll()
	}
	expect(t, "P8.1 the world", state(w), before)
}

// TestMost: of many addresses the first 32, of names all.
func TestMost(t *testing.T) {
	const many = 100000
	var hosts, services strings.Builder
	for i := range many {
		fmt.Fprintf(&hosts, "10.%d.%d.%d all h%d\n", i>>16, i>>8&255, i&255, i)
		fmt.Fprintf(&services, "s%d %d/udp all\n", i, i%65535+1)
	}
	hosts.WriteString("::1" + strings.Repeat(" b", 250) + "\n")
	w := world.New()
	w.Put(hostsPath, []byte(hosts.String()))
	w.Put(servicesPath, []byte(services.String()))
	d := filesdb.New(w)
	a, _, _ := d.Look(hostOf("All."))
	if len(a.Addrs) != api.MaxAddrs || a.Addrs[31] != "\x0a\x00\x00\x1f" {
		t.Errorf("P8.1: %d addresses: %q", len(a.Addrs), a.Addrs)
	}
	a, _, _ = d.Look(addrOf(one))
	expect(t, "P8.1 many names", strings.Join(a.Names, " "), strings.TrimSpace(strings.Repeat("b ", 250)))
	expect(t, "P8.1 a late row", tell(d.Look(hostOf("h99999"))), `[] ["\n\x01\x86\x9f"] 0 600; [{/etc/hosts 1}]; <nil>`)
	expect(t, "P8.1 a late port", tell(d.Look(portOf(65535, ""))), `["s65534" "all"] [] 65535 600; [{/etc/services 2}]; <nil>`)
	expect(t, "P8.1 a late service", look(d, serviceOf("s99999", "UDP")), `[] [] 34465 600; [{/etc/services 2}]; <nil>; 2`)
}

// TestNotReadTwice: many looks at a long table take no great time, and none of them parses it again.
func TestNotReadTwice(t *testing.T) {
	w := world.New()
	w.Put(hostsPath, []byte(strings.Repeat("1.2.3.4 a b c d e\n", 20000)))
	d := filesdb.New(w)
	for i := range 2000 {
		if got := look(d, hostOf("a")); got != `[] ["\x01\x02\x03\x04"] 0 600; [{/etc/hosts 1}]; <nil>; 1` {
			t.Fatalf("P8.1: look %d: %s", i, got)
		}
	}
}

// TestNoFiles: a nil DB, and those of no world.
func TestNoFiles(t *testing.T) {
	var none *filesdb.DB
	for _, db := range append([]int{1, 2, 3, 4}, foreign...) {
		for _, name := range []string{"", "a", one} {
			q := api.Query{DB: db, Name: name, Proto: "tcp", Port: 1}
			expect(t, "P8.2 a nil one, "+show(q), look(none, q), "[] [] 0 0; []; unavailable; 0")
			a, deps, err, done := none.Begin(q).Poll()
			expect(t, "P8.2 an Op of a nil one, "+show(q), tell(a, deps, err), "[] [] 0 0; []; unavailable")
			if !errors.Is(err, api.Unavail) || !done {
				t.Errorf("P8.2 %s: %v, %t", show(q), err, done)
			}
		}
	}
	for why, d := range map[string]*filesdb.DB{"of a nil world": filesdb.New(nil), "a zero one": new(filesdb.DB)} {
		if d == nil {
			t.Fatal("P8.1: New(nil) is nil")
		}
		expect(t, "P8.1 "+why, look(d, hostOf("a")), "[] [] 0 0; [{/etc/hosts 0}]; unavailable; 0")
		expect(t, "P8.1 "+why, look(d, addrOf(one)), "[] [] 0 0; [{/etc/hosts 0}]; unavailable; 0")
		expect(t, "P8.1 "+why, look(d, serviceOf("a", "")), "[] [] 0 0; [{/etc/services 0}]; unavailable; 0")
		expect(t, "P8.1 "+why, look(d, portOf(1, "")), "[] [] 0 0; [{/etc/services 0}]; unavailable; 0")
	}
}

// spoil writes into all that an answer has, spare room too.
func spoil(a api.Answer, deps []api.Dep) {
	for _, list := range [][]string{a.Names[:cap(a.Names)], a.Addrs[:cap(a.Addrs)]} {
		for i := range list {
			list[i] = "!"
		}
	}
	deps = deps[:cap(deps)]
	for i := range deps {
		deps[i] = api.Dep{Path: "!", Stamp: -1}
	}
}

func TestOwnMemory(t *testing.T) {
	d := filesdb.New(both())
	for _, q := range all() {
		a, deps, err := d.Look(q)
		want := tell(a, deps, err)
		b, others, _ := d.Look(q)
		spoil(b, others)
		expect(t, "P0.3 two answers, "+show(q), tell(a, deps, err), want)
		spoil(a, deps)
		expect(t, "P0.3 what is kept, "+show(q), tell(d.Look(q)), want)
	}
	expect(t, "P8.1 Reads", fmt.Sprint(d.Reads()), "2")
}

// scripted is the second reading: files by paths, each parsed at each look.
type scripted struct {
	bodies map[string]string // of those that are there
	stamps map[string]int64
	last   int64
	parsed map[string]int64 // the stamps they had when a look last found them
	reads  int
}

// change gives a path the next stamp.
func (s *scripted) change(path, body string, there bool) {
	s.last++
	s.stamps[path] = s.last
	delete(s.bodies, path)
	if there {
		s.bodies[path] = body
	}
}

// look tells what Look should answer.
func (s *scripted) look(q api.Query) string {
	path := hostsPath
	switch {
	case q.DB < 1 || q.DB > 4:
		return tell(api.Answer{}, nil, api.BadQuery)
	case q.DB > 2:
		path = servicesPath
	}
	deps := []api.Dep{{Path: path, Stamp: s.stamps[path]}}
	body, there := s.bodies[path]
	if !there {
		return tell(api.Answer{}, deps, api.Unavail)
	}
	if s.parsed[path] != s.stamps[path] {
		s.parsed[path] = s.stamps[path]
		s.reads++
	}
	a := api.Answer{Life: 600}
	switch q.DB {
	case 1:
		a.Addrs = hosttab.Parse([]byte(body)).ByName(q.Name)
	case 2:
		a.Names = hosttab.Parse([]byte(body)).ByAddr(q.Name)
	case 3:
		a.Port, _ = svctab.Parse([]byte(body)).ByName(q.Name, q.Proto)
	case 4:
		a.Names, _ = svctab.Parse([]byte(body)).ByPort(q.Port, q.Proto)
		if len(a.Names) > 0 {
			a.Port = q.Port
		}
	}
	if len(a.Addrs)+len(a.Names)+a.Port == 0 {
		return tell(api.Answer{}, deps, api.NotFound)
	}
	return tell(a, deps, nil)
}

// TestScripts: files that come and go between looks, in orders that a short rule makes.
func TestScripts(t *testing.T) {
	paths := []string{hostsPath, hostsPath, servicesPath, servicesPath, "/etc/switch"}
	rows := []string{"1.1.1.1 a\n", "1.1.1.2 b a\n", "::1 B\n", "a 1/tcp b\n", "a 2/udp\n", "b 2/tcp a\n", "# a\n", "a\n", "\x00\n"}
	names := []string{"a", "b", "A.", "c", "", "\x01\x01\x01\x01", "\x01\x01\x01\x02", one}
	protos := []string{"", "tcp", "UDP", "x"}
	for seed := range uint32(300) {
		n := seed
		next := func(most int) int {
			n = n*1664525 + 1013904223
			return int(n>>16) % most
		}
		w := world.New()
		d := filesdb.New(w)
		s := &scripted{bodies: map[string]string{}, stamps: map[string]int64{}, parsed: map[string]int64{}}
		for step := range 100 {
			path := paths[next(len(paths))]
			switch next(5) {
			case 0:
				body := ""
				for range next(4) {
					body += rows[next(len(rows))]
				}
				w.Put(path, []byte(body))
				s.change(path, body, true)
			case 1:
				if next(3) == 0 {
					w.Remove(path)
					s.change(path, "", false)
				}
			default:
				q := api.Query{DB: next(6), Name: names[next(len(names))], Proto: protos[next(len(protos))], Port: next(4)}
				want := s.look(q)
				got := tell(d.Look(q))
				if got != want || d.Reads() != s.reads {
					t.Fatalf("P8.1: script %d, step %d: %s: %s, %d reads, want %s, %d reads", seed, step, show(q), got, d.Reads(), want, s.reads)
				}
			}
		}
	}
}
