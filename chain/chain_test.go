package chain_test

import (
	"errors"
	"fmt"
	"math"
	"slices"
	"strings"
	"testing"

	"concierge/action"
	"concierge/api"
	"concierge/chain"
	"concierge/source"
)

const (
	ret   = api.AReturn
	on    = api.AContinue
	merge = api.AMerge
)

// Actions of a step: as without rules, with what is found merged, with nothing kept, and with everything returned.
var (
	plainDo = [4]int{ret, on, on, on}
	mergeDo = [4]int{merge, on, on, on}
	skipDo  = [4]int{on, on, on, on}
	stopDo  = [4]int{ret, ret, ret, ret}
)

// query is what the tests ask, where it says nothing of theirs.
var query = api.Query{DB: api.DHosts, Name: "gate"}

// said is what a source's Op answers.
type said struct {
	a    api.Answer
	deps []api.Dep
	err  error
	// waits is how often the Op is polled in vain.
	waits int
}

// player is a source whose Ops say one thing, and that writes down in log what it is asked.
type player struct {
	name string
	said said
	log  *string
}

func (p *player) Name() string { return p.name }

func (p *player) Begin(q api.Query) api.Op {
	*p.log += fmt.Sprintf("%s begins %v;", p.name, q)
	return &op{p: p, waits: p.said.waits}
}

// op is a question at a player. It hears.
type op struct {
	p     *player
	waits int
}

func (o *op) Poll() (api.Answer, []api.Dep, error, bool) {
	*o.p.log += o.p.name + " polled;"
	o.waits--
	return o.p.said.a, o.p.said.deps, o.p.said.err, o.waits < 0
}

func (o *op) Hear(from string, body []byte) {
	*o.p.log += fmt.Sprintf("%s hears %q %q;", o.p.name, from, body)
	o.spoil(body)
}

func (o *op) Bytes(stream int, body []byte, end bool) {
	*o.p.log += fmt.Sprintf("%s hears %d %q %t;", o.p.name, stream, body, end)
	o.spoil(body)
}

// spoil writes into what was heard, which is the Op's own.
func (o *op) spoil(body []byte) {
	for i := range body[:cap(body)] {
		body[:cap(body)][i] = '!'
	}
}

func expect(t *testing.T, promise string, got, want any) {
	t.Helper()
	if got, want := fmt.Sprint(got), fmt.Sprint(want); got != want {
		t.Errorf("%s: got %s, want %s", promise, got, want)
	}
}

// compile: the table of steps at the sources that list names, with the actions of each.
func compile(t *testing.T, list string, dos ...[4]int) *action.Table {
	t.Helper()
	var steps []api.Step
	for i, name := range strings.Fields(list) {
		steps = append(steps, api.Step{Source: name, Do: dos[i]})
	}
	table, err := action.Compile(steps)
	if err != nil {
		t.Fatalf("the table of %q: %v", list, err)
	}
	return table
}

// stage is a registry of players, by their names, that write into one log.
func stage(players map[string]said) (*source.Registry, *string) {
	r, log := source.New(), new(string)
	for name, s := range players {
		r.Put(&player{name: name, said: s, log: log})
	}
	return r, log
}

// told tells what Poll answers in one text.
func told(a api.Answer, deps []api.Dep, c api.Code, done bool) string {
	return fmt.Sprintf("%q %q %d %d; %v; %d; %t", a.Names, a.Addrs, a.Port, a.Life, deps, int(c), done)
}

func poll(r *chain.Run) string { return told(r.Poll()) }

// Answers of a run in one text: found with what is told of it, and with no Deps those that are negative, and of one that waits.
func found(a api.Answer, deps ...api.Dep) string { return told(a, deps, api.Found, true) }

const (
	notFound = `[] [] 0 30; []; 1; true`
	unavail  = `[] [] 0 0; []; 2; true`
	tryAgain = `[] [] 0 0; []; 3; true`
	waiting  = `[] [] 0 0; []; 0; false`
)

// Sources of each outcome.
var (
	gate  = said{a: api.Answer{Names: []string{"gate"}, Addrs: []string{"1"}, Port: 5, Life: 50}}
	none  = said{err: api.NotFound}
	down  = said{err: api.Unavail}
	again = said{err: api.TryAgain}
)

var company = map[string]said{"gate": gate, "none": none, "down": down, "again": again}

// TestLastRow: each outcome, with each action, in the only row and in the last of two, behind nothing that was merged.
func TestLastRow(t *testing.T) {
	all := found(gate.a)
	for _, x := range []struct {
		name string
		do   [4]int
		want string
	}{
		{"gate", plainDo, all},
		{"gate", mergeDo, all},
		{"gate", skipDo, notFound},
		{"gate", stopDo, all},
		{"none", plainDo, notFound},
		{"none", stopDo, notFound},
		{"down", plainDo, unavail},
		{"down", stopDo, unavail},
		{"again", plainDo, tryAgain},
		{"again", stopDo, tryAgain},
	} {
		r, _ := stage(company)
		run := chain.New(compile(t, x.name, x.do), r, query)
		expect(t, "P13.1 the only row: "+x.name, poll(run), x.want)
		expect(t, "P13.1 its calls", run.Calls(), "["+x.name+"]")
		for _, first := range []string{"gate", "none", "down", "again"} {
			run = chain.New(compile(t, first+" "+x.name, skipDo, x.do), r, query)
			expect(t, "P13.1 the last row: "+first+" "+x.name, poll(run), x.want)
			expect(t, "P13.1 its calls", run.Calls(), "["+first+" "+x.name+"]")
		}
	}
}

// TestReturnEnds: behind a return no row is begun, whatever stands there.
func TestReturnEnds(t *testing.T) {
	for name, want := range map[string]string{"gate": found(gate.a), "none": notFound, "down": unavail, "again": tryAgain} {
		r, log := stage(company)
		run := chain.New(compile(t, name+" gate none", stopDo, mergeDo, stopDo), r, query)
		expect(t, "P13.1 return of "+name, poll(run), want)
		expect(t, "P13.1 its calls", run.Calls(), "["+name+"]")
		expect(t, "P13.1 who was asked", *log, name+" begins {1 gate  0};"+name+" polled;")
	}
}

// TestMergedEnds: what was merged is found at each end that is no Found itself.
func TestMergedEnds(t *testing.T) {
	for _, name := range []string{"none", "down", "again", "nobody"} {
		for _, do := range [][4]int{plainDo, mergeDo, skipDo, stopDo} {
			r, _ := stage(company)
			run := chain.New(compile(t, "gate "+name, mergeDo, do), r, query)
			expect(t, "P13.1 merged, then "+name, poll(run), found(gate.a))
			expect(t, "P13.1 its calls", run.Calls(), "[gate "+name+"]")
		}
	}
	r, _ := stage(map[string]said{"gate": gate, "other": {a: api.Answer{Names: []string{"other"}, Life: 7}}})
	run := chain.New(compile(t, "gate other", mergeDo, skipDo), r, query)
	expect(t, "P13.1 merged, then found and not kept", poll(run), found(gate.a))
}

// TestOutcomes: each error counts as one of the four outcomes, in the row's action and at the end.
func TestOutcomes(t *testing.T) {
	counts := map[api.Code]string{api.NotFound: notFound, api.TryAgain: tryAgain}
	for c := api.Code(-1); c <= 20; c++ {
		want, ok := counts[c]
		if !ok {
			want = unavail
		}
		for _, err := range []error{c, &api.SourceError{Source: "x", Err: c}, fmt.Errorf("deep: %w", &api.TextError{Line: 1, Col: 2, Err: c})} {
			s := gate
			s.err = err
			r, _ := stage(map[string]said{"odd": s, "gate": gate})
			expect(t, fmt.Sprint("P13.1 the outcome of ", err), poll(chain.New(compile(t, "odd", stopDo), r, query)), want)
			// Just one of the actions lets the chain go on.
			goes := [4]int{ret, ret, ret, ret}
			goes[map[string]int{notFound: 1, unavail: 2, tryAgain: 3}[want]] = on
			expect(t, fmt.Sprint("P13.1 the action of ", err), poll(chain.New(compile(t, "odd gate", goes, plainDo), r, query)), found(gate.a))
		}
	}
	for err, want := range map[error]string{errors.New("plain"): unavail, errors.Join(api.Full, api.TryAgain): tryAgain, errors.Join(api.TryAgain, api.NotFound): notFound} {
		r, _ := stage(map[string]said{"odd": {err: err}})
		expect(t, fmt.Sprint("P13.1 the outcome of ", err), poll(chain.New(compile(t, "odd", plainDo), r, query)), want)
	}
}

// TestAnswerBesideError: what a source tells beside an error is not found.
func TestAnswerBesideError(t *testing.T) {
	s := gate
	s.err = api.NotFound
	r, _ := stage(map[string]said{"odd": s, "port": {a: api.Answer{Port: 9, Life: 3}}})
	expect(t, "P13.1 an answer beside an error", poll(chain.New(compile(t, "odd port", mergeDo, mergeDo), r, query)), found(api.Answer{Port: 9, Life: 3}))
}

// run: what a run of answers tells that are all merged, the last one returned.
func run(t *testing.T, answers ...api.Answer) string {
	t.Helper()
	players, list, dos := map[string]said{}, "", [][4]int{}
	for i, a := range answers {
		name := fmt.Sprint("s", i)
		players[name] = said{a: a}
		list += name + " "
		dos = append(dos, mergeDo)
	}
	r, _ := stage(players)
	merged := poll(chain.New(compile(t, list, dos...), r, query))
	dos[len(dos)-1] = plainDo
	expect(t, "P13.1 return of Found is the same as merge", poll(chain.New(compile(t, list, dos...), r, query)), merged)
	return merged
}

func TestMergeLists(t *testing.T) {
	a := api.Answer{Names: []string{"x", "y", "x"}, Addrs: []string{"1", "1"}, Life: 5}
	b := api.Answer{Names: []string{"z", "y", "", "w", ""}, Addrs: []string{"2", "1", "x"}, Life: 5}
	expect(t, "P13.1 one list", run(t, a), found(api.Answer{Names: []string{"x", "y"}, Addrs: []string{"1"}, Life: 5}))
	expect(t, "P13.1 two", run(t, a, b), found(api.Answer{Names: []string{"x", "y", "z", "", "w"}, Addrs: []string{"1", "2", "x"}, Life: 5}))
	expect(t, "P13.1 the other way", run(t, b, a), found(api.Answer{Names: []string{"z", "y", "", "w", "x"}, Addrs: []string{"2", "1", "x"}, Life: 5}))
	expect(t, "P13.1 four", run(t, a, b, a, b), run(t, a, b))
	expect(t, "P13.1 names are not folded", run(t, api.Answer{Names: []string{"a", "A", "a.", "\xff", "a"}}), found(api.Answer{Names: []string{"a", "A", "a.", "\xff"}}))
}

// texts: the numbers from..to as texts.
func texts(from, to int) []string {
	var all []string
	for i := from; i <= to; i++ {
		all = append(all, fmt.Sprint(i))
	}
	return all
}

// TestMergeMost: the first 32 names, and the first 32 addresses, of those that differ.
func TestMergeMost(t *testing.T) {
	whole := api.Answer{Names: texts(1, 32), Addrs: texts(101, 132), Life: 1}
	expect(t, "P13.1 just 32", run(t, whole), found(whole))
	expect(t, "P13.1 33", run(t, api.Answer{Names: texts(1, 33), Addrs: texts(101, 133), Life: 1}), found(whole))
	expect(t, "P13.1 many", run(t, api.Answer{Names: texts(1, 20000), Addrs: texts(101, 20000), Life: 1}), found(whole))
	expect(t, "P13.1 31 and 2", run(t, api.Answer{Names: texts(1, 31), Addrs: texts(101, 131), Life: 1}, api.Answer{Names: texts(32, 33), Addrs: texts(132, 133), Life: 1}), found(whole))
	expect(t, "P13.1 each list has its own room", run(t, api.Answer{Names: texts(1, 40), Life: 1}, api.Answer{Names: texts(50, 60), Addrs: texts(101, 132), Life: 1}), found(whole))
	twice := append(texts(1, 31), texts(1, 31)...)
	expect(t, "P13.1 those that stand twice take no room", run(t, api.Answer{Names: append(twice, "32", "33"), Addrs: texts(101, 132), Life: 1}), found(whole))
	expect(t, "P13.1 Port and Life behind full lists", run(t, whole, api.Answer{Names: texts(40, 50), Port: 3, Life: 0}), found(api.Answer{Names: whole.Names, Addrs: whole.Addrs, Port: 3}))
}

func TestMergePort(t *testing.T) {
	for _, x := range []struct {
		ports []int
		want  int
	}{
		{[]int{0}, 0}, {[]int{7}, 7}, {[]int{7, 8}, 7}, {[]int{0, 8}, 8}, {[]int{8, 0}, 8}, {[]int{0, 0, 3, 4}, 3}, {[]int{0, 0}, 0},
		{[]int{-1, 5}, -1}, {[]int{0, math.MinInt}, math.MinInt}, {[]int{math.MaxInt, 1}, math.MaxInt}, {[]int{1 << 32, 1}, 1 << 32},
	} {
		var answers []api.Answer
		for _, p := range x.ports {
			answers = append(answers, api.Answer{Port: p})
		}
		expect(t, fmt.Sprint("P13.1 the Port of ", x.ports), run(t, answers...), found(api.Answer{Port: x.want}))
	}
}

// TestLife: the least one of those merged, brought between its two bounds.
func TestLife(t *testing.T) {
	for _, x := range []struct {
		lives []int64
		want  int64
	}{
		{[]int64{0}, 0}, {[]int64{1}, 1}, {[]int64{-1}, 0}, {[]int64{-5}, 0}, {[]int64{math.MinInt64}, 0},
		{[]int64{86399}, 86399}, {[]int64{86400}, 86400}, {[]int64{86401}, 86400}, {[]int64{1 << 40}, 86400}, {[]int64{math.MaxInt64}, 86400},
		{[]int64{5, 9}, 5}, {[]int64{9, 5}, 5}, {[]int64{9, 5, 7}, 5}, {[]int64{0, 5}, 0}, {[]int64{5, 0}, 0}, {[]int64{5, -9}, 0}, {[]int64{-9, 5}, 0},
		{[]int64{math.MaxInt64, 5}, 5}, {[]int64{math.MaxInt64, 90000}, 86400}, {[]int64{math.MaxInt64, math.MinInt64}, 0},
	} {
		var answers []api.Answer
		for _, life := range x.lives {
			answers = append(answers, api.Answer{Port: 1, Life: life})
		}
		expect(t, fmt.Sprint("P13.2 the Life of ", x.lives), run(t, answers...), found(api.Answer{Port: 1, Life: x.want}))
	}
}

// TestLifeOfOthers: Life is the least of those merged alone.
func TestLifeOfOthers(t *testing.T) {
	r, _ := stage(map[string]said{"gate": gate, "short": {a: api.Answer{Life: 1}}, "wrong": {a: api.Answer{Life: 2}, err: api.Busy}})
	run := chain.New(compile(t, "short wrong gate none short", skipDo, mergeDo, mergeDo, mergeDo, skipDo), r, query)
	expect(t, "P13.1 the Life of what was not merged", poll(run), found(gate.a))
	for name, want := range map[string]string{"none": notFound, "down": unavail, "again": tryAgain} {
		for _, life := range []int64{-1, 1, 1 << 40} {
			r, _ := stage(map[string]said{"skipped": {a: api.Answer{Life: life}}, name: {a: api.Answer{Life: life}, err: company[name].err}})
			expect(t, "P13.2 the Life of "+name, poll(chain.New(compile(t, "skipped "+name, skipDo, plainDo), r, query)), want)
		}
	}
}

// TestMergeNothing: a Found without anything in it that was merged is found, too.
func TestMergeNothing(t *testing.T) {
	r, _ := stage(map[string]said{"empty": {}, "none": none, "again": again})
	for _, list := range []string{"empty", "empty none", "none empty", "empty again none"} {
		expect(t, "P13.1 an empty answer merged: "+list, poll(chain.New(compile(t, list, mergeDo, mergeDo, mergeDo), r, query)), found(api.Answer{}))
	}
}

// TestDeps: of all sources that were done, by paths, each with its first stamp.
func TestDeps(t *testing.T) {
	a := said{a: api.Answer{Life: 9}, deps: []api.Dep{{Path: "q", Stamp: 1}, {Path: "p", Stamp: 2}, {Path: "q", Stamp: 3}}}
	b := said{err: api.NotFound, deps: []api.Dep{{Path: "p", Stamp: 7}, {Path: "", Stamp: -4}, {Path: "r", Stamp: math.MinInt64}}}
	c := said{err: api.Full, deps: []api.Dep{{Path: "r", Stamp: 0}, {Path: "\xff", Stamp: math.MaxInt64}, {Path: "P", Stamp: 0}}}
	d := said{err: api.TryAgain, deps: []api.Dep{{Path: "P", Stamp: 5}, {Path: "q", Stamp: 6}}}
	r, _ := stage(map[string]said{"a": a, "b": b, "c": c, "d": d, "none": none})
	for _, x := range []struct {
		list string
		do   [4]int
		want string
	}{
		{"none", skipDo, "[]"},
		{"a", mergeDo, "[{p 2} {q 1}]"},
		{"a", skipDo, "[{p 2} {q 1}]"},
		{"b", skipDo, fmt.Sprintf("[{ -4} {p 7} {r %d}]", math.MinInt64)},
		{"a b", mergeDo, fmt.Sprintf("[{ -4} {p 2} {q 1} {r %d}]", math.MinInt64)},
		{"b a", skipDo, fmt.Sprintf("[{ -4} {p 7} {q 1} {r %d}]", math.MinInt64)},
		{"c b", skipDo, fmt.Sprintf("[{ -4} {P 0} {p 7} {r 0} {\xff %d}]", math.MaxInt64)},
		{"d c b a", mergeDo, fmt.Sprintf("[{ -4} {P 5} {p 7} {q 6} {r 0} {\xff %d}]", math.MaxInt64)},
		{"c nobody none", skipDo, fmt.Sprintf("[{P 0} {r 0} {\xff %d}]", math.MaxInt64)},
		{"d a", stopDo, "[{P 5} {q 6}]"},
	} {
		run := chain.New(compile(t, x.list, x.do, x.do, x.do, x.do), r, query)
		for range 3 {
			_, deps, _, _ := run.Poll()
			expect(t, "P13.1 the Deps of "+x.list, deps, x.want)
		}
	}
}

func TestManyDeps(t *testing.T) {
	var deps []api.Dep
	for i := range 20000 {
		deps = append(deps, api.Dep{Path: fmt.Sprintf("%05d", i*7919%20000), Stamp: int64(i)})
	}
	r, _ := stage(map[string]said{"a": {err: api.NotFound, deps: deps}, "b": {deps: deps[5:]}})
	_, got, _, _ := chain.New(compile(t, "a b", plainDo, plainDo), r, query).Poll()
	slices.SortFunc(deps, func(x, y api.Dep) int { return strings.Compare(x.Path, y.Path) })
	expect(t, "P13.1 many Deps", slices.Equal(got, deps), true)
}
