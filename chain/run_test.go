package chain_test

import (
	"fmt"
	"math/rand"
	"slices"
	"sort"
	"strings"
	"testing"

	"concierge/action"
	"concierge/api"
	"concierge/chain"
	"concierge/filesdb"
	"concierge/source"
	"concierge/world"
)

// TestWaits: a run goes on as far as it can at each Poll, and no further than to an Op that isn't done.
func TestWaits(t *testing.T) {
	slow, slower := gate, none
	slow.waits, slower.waits = 2, 1
	slow.deps = []api.Dep{{Path: "p", Stamp: 1}}
	slower.deps = []api.Dep{{Path: "q", Stamp: 2}}
	r, log := stage(map[string]said{"slow": slow, "slower": slower, "none": none})
	q := api.Query{DB: 9, Name: "\xff", Proto: "p", Port: -3}
	run := chain.New(compile(t, "none slower none slow none", plainDo, plainDo, plainDo, mergeDo, plainDo), r, q)
	for i, x := range []struct{ log, calls, want string }{
		{"none begins Q;none polled;slower begins Q;slower polled;", "[none slower]", waiting},
		{"slower polled;none begins Q;none polled;slow begins Q;slow polled;", "[none slower none slow]", waiting},
		{"slow polled;", "[none slower none slow]", waiting},
		{"slow polled;none begins Q;none polled;", "[none slower none slow none]", found(gate.a, api.Dep{Path: "p", Stamp: 1}, api.Dep{Path: "q", Stamp: 2})},
		{"", "[none slower none slow none]", found(gate.a, api.Dep{Path: "p", Stamp: 1}, api.Dep{Path: "q", Stamp: 2})},
	} {
		*log = ""
		expect(t, fmt.Sprint("P13.1 Poll ", i), poll(run), x.want)
		expect(t, "P13.1 who was asked", strings.ReplaceAll(*log, fmt.Sprint(q), "Q"), x.log)
		expect(t, "P13.1 Calls", run.Calls(), x.calls)
	}
}

// TestNotDone: what an Op tells that isn't done counts for nothing.
func TestNotDone(t *testing.T) {
	early := said{a: gate.a, deps: []api.Dep{{Path: "p", Stamp: 1}}, err: api.Busy, waits: 3}
	r, _ := stage(map[string]said{"early": early})
	run := chain.New(compile(t, "early", stopDo), r, query)
	for range 3 {
		expect(t, "P13.1 not done", poll(run), waiting)
	}
	expect(t, "P13.1 done", poll(run), "[] [] 0 0; [{p 1}]; 2; true")
}

// TestTheSameAgain: a run that has ended asks nobody any more, and tells the same.
func TestTheSameAgain(t *testing.T) {
	for _, list := range []string{"gate", "none", "down", "again", "nobody", "none gate"} {
		r, log := stage(company)
		run := chain.New(compile(t, list, plainDo, plainDo), r, query)
		first, calls := poll(run), fmt.Sprint(run.Calls())
		*log = ""
		for range 5 {
			run.Hear("a", []byte("body"))
			run.Bytes(1, []byte("body"), true)
			expect(t, "P13.1 the same again", poll(run), first)
			expect(t, "P13.1 the same Calls", run.Calls(), calls)
		}
		expect(t, "P13.1 asked behind the end", *log, "")
	}
}

// TestHear: the Op that the run waits for hears, no other one, and none where it waits for none.
func TestHear(t *testing.T) {
	slow, slower := none, gate
	slow.waits, slower.waits = 1, 1
	r, log := stage(map[string]said{"slow": slow, "slower": slower})
	run := chain.New(compile(t, "slow slower", plainDo, plainDo), r, query)
	body, long := []byte("body and room")[:4], strings.Repeat("x", 5000)
	tell := func(want string) {
		t.Helper()
		*log = ""
		run.Hear("from", body)
		run.Bytes(-7, body, false)
		run.Hear("", nil)
		run.Bytes(1, []byte(long), true)
		if want != "" {
			want = fmt.Sprintf(`%s hears "from" "body";%s hears -7 "body" false;%s hears "" "";%s hears 1 %q true;`, want, want, want, want, long)
		}
		expect(t, "P13.1 who hears", *log, want)
		expect(t, "P0.3 the body that was handed in", string(body[:13]), "body and room")
	}
	tell("")
	expect(t, "P13.1 what waits", poll(run), waiting)
	tell("slow")
	tell("slow")
	expect(t, "P13.1 what waits", poll(run), waiting)
	tell("slower")
	expect(t, "P13.1 what was heard changes nothing", poll(run), found(gate.a))
	tell("")
}

// deaf is a source of Ops that don't hear.
type deaf struct{ waits int }

func (d *deaf) Name() string           { return "deaf" }
func (d *deaf) Begin(api.Query) api.Op { return d }
func (d *deaf) Poll() (api.Answer, []api.Dep, error, bool) {
	d.waits--
	return api.Answer{Port: 1}, nil, nil, d.waits < 0
}

func TestHearDeaf(t *testing.T) {
	r := source.New()
	r.Put(&deaf{waits: 1})
	run := chain.New(compile(t, "deaf", plainDo), r, query)
	for _, want := range []string{waiting, found(api.Answer{Port: 1})} {
		expect(t, "P13.1 one that doesn't hear", poll(run), want)
		run.Hear("a", []byte("1"))
		run.Bytes(1, nil, true)
	}
}

// TestNotRegistered: a source that is not there is Unavail, and among the calls.
func TestNotRegistered(t *testing.T) {
	r, log := stage(company)
	run := chain.New(compile(t, "nobody Gate gate", plainDo, plainDo, plainDo), r, query)
	expect(t, "P13.1 behind those that are not there", poll(run), found(gate.a))
	expect(t, "P13.1 Calls", fmt.Sprintf("%q", run.Calls()), `["nobody" "Gate" "gate"]`)
	expect(t, "P13.1 who was asked", *log, "gate begins {1 gate  0};gate polled;")
	run = chain.New(compile(t, "nobody gate", [4]int{ret, on, ret, on}, plainDo), r, query)
	expect(t, "P13.1 return of one that is not there", poll(run), unavail)
	run = chain.New(compile(t, "nobody nobody", plainDo, plainDo), source.New(), query)
	expect(t, "P13.1 none registered", poll(run), unavail)
	expect(t, "P13.1 Calls of none", run.Calls(), "[nobody nobody]")
	run = chain.New(compile(t, "nobody", plainDo), &source.Registry{}, query)
	expect(t, "P13.1 a zero registry", poll(run), unavail)
	expect(t, "P13.1 its Calls", run.Calls(), "[nobody]")
}

// TestSourceTwice: a source that stands in two rows is begun at each.
func TestSourceTwice(t *testing.T) {
	r, log := stage(company)
	run := chain.New(compile(t, "gate none gate", mergeDo, plainDo, mergeDo), r, query)
	expect(t, "P13.1 a source twice", poll(run), found(gate.a))
	expect(t, "P13.1 its Calls", run.Calls(), "[gate none gate]")
	expect(t, "P13.1 how often it was begun", strings.Count(*log, "gate begins"), 2)
}

// wild is a source that panics, or does another thing that a source should not do.
type wild struct {
	throwName, throwAble, throwBegin, throwPoll bool
	unable, noOp                                bool
	named                                       bool
}

func (w *wild) Name() string {
	if w.throwName && w.named {
		panic("Name")
	}
	w.named = true
	return "wild"
}

func (w *wild) Able(int) bool {
	if w.throwAble {
		panic(nil)
	}
	return !w.unable
}

func (w *wild) Begin(api.Query) api.Op {
	if w.throwBegin {
		panic(api.NotFound)
	}
	if w.noOp {
		return nil
	}
	return w
}

func (w *wild) Poll() (api.Answer, []api.Dep, error, bool) {
	if w.throwPoll {
		var none []int
		none[len("x")]++
	}
	return gate.a, nil, nil, true
}

// nilOp is a source whose Ops are nil pointers.
type nilOp struct{ *wild }

func (nilOp) Begin(api.Query) api.Op { return (*op)(nil) }

func TestWildSources(t *testing.T) {
	for k, s := range []api.Source{
		&wild{throwName: true}, &wild{throwAble: true}, &wild{throwBegin: true}, &wild{throwPoll: true}, &wild{unable: true}, &wild{noOp: true}, nilOp{&wild{}},
	} {
		r, _ := stage(company)
		r.Put(s)
		promise := fmt.Sprint("P0.1 the wild source ", k)
		first := chain.New(compile(t, "wild", plainDo), r, query)
		expect(t, promise, poll(first), unavail)
		expect(t, promise+": Calls", first.Calls(), "[wild]")
		second := chain.New(compile(t, "wild gate", plainDo, plainDo), r, query)
		expect(t, promise+", the next row", poll(second), found(gate.a))
		expect(t, promise+": Calls", second.Calls(), "[wild gate]")
		third := chain.New(compile(t, "gate wild", mergeDo, stopDo), r, query)
		expect(t, promise+", behind one that was merged", poll(third), found(gate.a))
	}
	r := source.New()
	r.Put(&wild{})
	expect(t, "P13.1 a source that is not wild", poll(chain.New(compile(t, "wild", plainDo), r, query)), found(gate.a))
}

// rude is an Op that is never done, and panics when it hears.
type rude struct{ deaf }

func (r *rude) Begin(api.Query) api.Op                     { return r }
func (r *rude) Poll() (api.Answer, []api.Dep, error, bool) { return api.Answer{}, nil, nil, false }
func (r *rude) Hear(string, []byte)                        { panic("Hear") }
func (r *rude) Bytes(int, []byte, bool)                    { panic("Bytes") }

func TestRudeOp(t *testing.T) {
	r := source.New()
	r.Put(&rude{})
	run := chain.New(compile(t, "deaf", plainDo), r, query)
	for range 20 {
		expect(t, "P13.1 one that is never done", poll(run), waiting)
		run.Hear("a", nil)
		run.Bytes(1, nil, true)
		expect(t, "P13.1 its Calls", run.Calls(), "[deaf]")
	}
}

// TestNothing: without a table, a registry or a run there is nothing to do.
func TestNothing(t *testing.T) {
	r, log := stage(company)
	table := compile(t, "gate", plainDo)
	var none *chain.Run
	for k, run := range []*chain.Run{
		none, {}, chain.New(nil, r, query), chain.New(table, nil, query), chain.New(nil, nil, api.Query{}), chain.New(&action.Table{}, r, query),
	} {
		for range 3 {
			expect(t, fmt.Sprint("P13.2 nothing ", k), poll(run), unavail)
			expect(t, "P13.2 no calls", len(run.Calls()), 0)
			run.Hear("a", []byte("1"))
			run.Bytes(1, []byte("2"), true)
		}
	}
	expect(t, "P13.2 who was asked", *log, "")
}

// TestRuns: runs of one table and one registry know nothing of each other.
func TestRuns(t *testing.T) {
	slow := gate
	slow.waits = 1
	r, _ := stage(map[string]said{"slow": slow, "none": none})
	table := compile(t, "none slow", plainDo, mergeDo)
	first, second := chain.New(table, r, query), chain.New(table, r, query)
	expect(t, "P0.5 the first waits", poll(first), waiting)
	expect(t, "P0.5 the first ends", poll(first), found(gate.a))
	expect(t, "P0.5 the second has no calls yet", len(second.Calls()), 0)
	expect(t, "P0.5 the second waits", poll(second), waiting)
	expect(t, "P0.5 the second ends", poll(second), found(gate.a))
}

// TestOwnMemory: whoever writes into what was answered, its spare room too, changes no other answer, and nothing that a source keeps.
func TestOwnMemory(t *testing.T) {
	for n := range 9 {
		s := said{a: api.Answer{Names: texts(1, n), Addrs: texts(1, n+1), Life: 5}}
		for i := range n {
			s.deps = append(s.deps, api.Dep{Path: fmt.Sprint(i), Stamp: int64(i)})
		}
		r, _ := stage(map[string]said{"a": s, "none": none})
		run := chain.New(compile(t, "none a none", plainDo, mergeDo, plainDo), r, query)
		early, earlyDeps, _, _ := run.Poll()
		earlyCalls := run.Calls()
		spoilt, spoiltDeps, _, _ := run.Poll()
		spoilTexts(spoilt.Names)
		spoilTexts(run.Calls())
		expect(t, "P0.3 the list beside it", spoilt.Addrs, texts(1, n+1))
		spoilTexts(spoilt.Addrs)
		spoiltDeps = spoiltDeps[:cap(spoiltDeps)]
		for i := range spoiltDeps {
			spoiltDeps[i] = api.Dep{Path: "spoilt", Stamp: -1}
		}
		want := found(s.a, s.deps...)
		expect(t, "P0.3 answered before", found(early, earlyDeps...), want)
		expect(t, "P0.3 answered again", poll(run), want)
		expect(t, "P0.3 Calls before and again", fmt.Sprint(earlyCalls, run.Calls()), "[none a none] [none a none]")
		expect(t, "P0.3 a new run", poll(chain.New(compile(t, "a", plainDo), r, query)), want)
	}
}

func spoilTexts(list []string) {
	list = list[:cap(list)]
	for i := range list {
		list[i] = "spoilt"
	}
}

// TestSourcesMemory: what a source writes into its lists behind its answer changes nothing.
func TestSourcesMemory(t *testing.T) {
	s := said{a: api.Answer{Names: texts(1, 3), Addrs: texts(4, 6)}, deps: []api.Dep{{Path: "p", Stamp: 1}}}
	r, _ := stage(map[string]said{"a": s, "slow": {err: api.NotFound, waits: 1}})
	run := chain.New(compile(t, "a slow", mergeDo, plainDo), r, query)
	expect(t, "P0.3 the first Poll", poll(run), waiting)
	want := found(api.Answer{Names: texts(1, 3), Addrs: texts(4, 6)}, api.Dep{Path: "p", Stamp: 1})
	spoilTexts(s.a.Names)
	spoilTexts(s.a.Addrs)
	s.deps[0] = api.Dep{Path: "spoilt"}
	expect(t, "P0.3 behind what the source wrote", poll(run), want)
}

// second is a second reading of a run that never waits: the players in the order of their rows, nil for one that is not registered.
func second(players []*said, dos [][4]int) (string, int) {
	var kept []api.Answer
	stamps, paths := map[string]int64{}, []string{}
	last, rows := api.Found, 0
	for i, p := range players {
		rows++
		last = api.Unavail
		if p != nil {
			if c, ok := p.err.(api.Code); !ok || c == api.NotFound || c == api.TryAgain {
				last = c
			}
			for _, d := range p.deps {
				if !slices.Contains(paths, d.Path) {
					paths = append(paths, d.Path)
					stamps[d.Path] = d.Stamp
				}
			}
		}
		if do := dos[i][last]; last == api.Found && do != on {
			kept = append(kept, p.a)
		}
		if dos[i][last] == ret {
			break
		}
		if last == api.Found {
			last = api.NotFound
		}
	}
	sort.Strings(paths)
	var deps []api.Dep
	for _, path := range paths {
		deps = append(deps, api.Dep{Path: path, Stamp: stamps[path]})
	}
	if len(kept) > 0 {
		return found(together(kept), deps...), rows
	}
	life := map[api.Code]int64{api.NotFound: 30}[last]
	return told(api.Answer{Life: life}, deps, last, true), rows
}

// together: what these answers are, merged.
func together(kept []api.Answer) api.Answer {
	var all api.Answer
	var lives []int64
	for _, a := range kept {
		all.Names, all.Addrs = append(all.Names, a.Names...), append(all.Addrs, a.Addrs...)
		lives = append(lives, min(max(a.Life, 0), 86400))
		if all.Port == 0 {
			all.Port = a.Port
		}
	}
	all.Names, all.Addrs, all.Life = firsts(all.Names), firsts(all.Addrs), slices.Min(lives)
	return all
}

// firsts: the first 32 that differ.
func firsts(list []string) []string {
	var once []string
	for i, s := range list {
		if slices.Index(list, s) == i {
			once = append(once, s)
		}
	}
	return once[:min(len(once), 32)]
}

// randomSaid: an answer of any sort, in a part of the cases beside an error.
func randomSaid(random *rand.Rand) said {
	list := func(most int) []string {
		var all []string
		for range random.Intn(most) {
			all = append(all, fmt.Sprint(random.Intn(60)))
		}
		return all
	}
	s := said{a: api.Answer{Names: list(40), Addrs: list(5), Port: random.Intn(3), Life: random.Int63n(100) - 10}, waits: random.Intn(3)}
	if random.Intn(4) == 0 {
		s.a.Life = random.Int63() - random.Int63()
	}
	for _, path := range list(4) {
		s.deps = append(s.deps, api.Dep{Path: path, Stamp: random.Int63n(9)})
	}
	if random.Intn(2) == 0 {
		s.err = []api.Code{api.NotFound, api.Unavail, api.TryAgain, api.Busy, api.Full}[random.Intn(5)]
	}
	return s
}

// TestAgainstSecond holds runs of tables of each size against the second reading.
func TestAgainstSecond(t *testing.T) {
	random := rand.New(rand.NewSource(13))
	for range 4000 {
		registered, list := map[string]said{}, ""
		var players []*said
		var dos [][4]int
		waits := 0
		for i := range 1 + random.Intn(8) {
			name := fmt.Sprint("s", i)
			list += name + " "
			dos = append(dos, [4]int{1 + random.Intn(3), min(2, 1+random.Intn(5)), min(2, 1+random.Intn(5)), min(2, 1+random.Intn(5))})
			if random.Intn(6) == 0 {
				players = append(players, nil)
				continue
			}
			s := randomSaid(random)
			registered[name] = s
			players = append(players, &s)
		}
		want, rows := second(players, dos)
		for _, p := range players[:rows] {
			if p != nil {
				waits += p.waits
			}
		}
		r, _ := stage(registered)
		run := chain.New(compile(t, list, dos...), r, query)
		for range waits {
			expect(t, "P13.1 a run that waits", poll(run), waiting)
		}
		expect(t, "P13.1 a run that has ended", poll(run), want)
		expect(t, "P13.1 Calls", run.Calls(), strings.Fields(list)[:rows])
	}
}

// TestFiles: a source of the program in a chain.
func TestFiles(t *testing.T) {
	w := world.New()
	w.Put("/etc/hosts", []byte("10.0.0.1 gate\n"))
	r, _ := stage(map[string]said{"dns": {a: api.Answer{Names: []string{"gate"}, Addrs: []string{"9999", "\x0a\x00\x00\x01"}, Life: 60}}, "none": none})
	r.Put(filesdb.New(w))
	table := compile(t, "files dns", mergeDo, plainDo)
	dep := api.Dep{Path: "/etc/hosts", Stamp: 1}
	both := api.Answer{Names: []string{"gate"}, Addrs: []string{"\x0a\x00\x00\x01", "9999"}, Life: 60}
	expect(t, "P13.1 files and dns", poll(chain.New(table, r, query)), found(both, dep))
	alone := compile(t, "files none", plainDo, plainDo)
	expect(t, "P13.1 files", poll(chain.New(alone, r, query)), found(api.Answer{Addrs: both.Addrs[:1], Life: 600}, dep))
	expect(t, "P13.1 not in files", poll(chain.New(alone, r, api.Query{DB: api.DHosts, Name: "x"})), "[] [] 0 30; [{/etc/hosts 1}]; 1; true")
	expect(t, "P13.1 a file that is not there", poll(chain.New(compile(t, "files", plainDo), r, api.Query{DB: api.DPorts})), "[] [] 0 0; [{/etc/services 0}]; 2; true")
	expect(t, "P13.1 a database that files don't know", poll(chain.New(alone, r, api.Query{DB: 7})), notFound)
}
