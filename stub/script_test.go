package stub_test

import (
	"fmt"
	"iter"
	"math/rand"
	"slices"
	"strings"
	"testing"

	"concierge/addr"
	"concierge/api"
	"concierge/names"
	"concierge/outcome"
	"concierge/resolv"
	"concierge/wire"
)

// What comes to a lookup.
const (
	polled = iota
	heard
	bytesCame
	over
)

// event is one of these, with what belongs to it.
type event struct {
	kind   int
	from   string
	stream int
	body   string
	end    bool
}

// second is a second reading of a resolver and its world: what all its lookups have in common.
type second struct {
	id, begun int
	now       int64
	sent      []string
	streams   []api.Stream
}

// reader is a lookup of it, which is read from its beginning to its end as the chapter has it: where something must come, it waits.
type reader struct {
	*second
	setup api.Setup
	first int
	says  string
	came  event
	wait  func() bool
}

// await: what comes next.
func (r *reader) await() event {
	if !r.wait() {
		return event{kind: over}
	}
	return r.came
}

// start reads a lookup of q up to where it waits first, and gives what takes it on by an event, and what ends it.
func (s *second) start(q api.Query, settings string, dep api.Dep) (r *reader, on func(e event), stop func()) {
	r = &reader{second: s, setup: resolv.Parse([]byte(settings)), says: waiting}
	next, stop := iter.Pull(func(yield func(bool) bool) {
		r.wait = func() bool { return yield(true) }
		a, code := r.lookup(q)
		var err error
		if code != api.Found {
			err = &api.SourceError{Source: "dns", Err: code}
		}
		r.says = told(a, []api.Dep{dep}, err, true)
	})
	next()
	return r, func(e event) { r.came = e; next() }, stop
}

// lookup: the whole of it.
func (r *reader) lookup(q api.Query) (api.Answer, api.Code) {
	if len(r.setup.Servers) == 0 {
		return api.Answer{}, api.Unavail
	}
	if r.setup.Rotate {
		r.first = r.begun
	}
	r.begun++
	if q.DB == api.DAddrs {
		records, answered := r.ask(api.Question{Name: names.Reverse(q.Name), Type: api.TPtr})
		switch {
		case !answered:
			return api.Answer{}, api.TryAgain
		case len(records) == 0:
			return api.Answer{}, api.NotFound
		}
		return api.Answer{Names: firsts(records), Life: life(records)}, api.Found
	}
	for _, name := range names.Candidates(q.Name, r.setup.Search, r.setup.Dots) {
		short, ok := r.ask(api.Question{Name: name, Type: api.TA})
		long, too := r.ask(api.Question{Name: name, Type: api.TAAAA})
		if all := append(short, long...); len(all) > 0 {
			return api.Answer{Names: []string{name}, Addrs: firsts(all), Life: life(all)}, api.Found
		}
		if !ok || !too {
			return api.Answer{}, api.TryAgain
		}
	}
	return api.Answer{}, api.NotFound
}

// firsts: the first 32 data that differ.
func firsts(records []api.Record) []string {
	var once []string
	for _, r := range records {
		if !slices.Contains(once, r.Data) {
			once = append(once, r.Data)
		}
	}
	return once[:min(len(once), 32)]
}

// life: the least one, no more than a day.
func life(records []api.Record) int64 {
	least := int64(86400)
	for _, r := range records {
		least = min(least, r.TTL)
	}
	return least
}

// ask: the records that answer the question (none: it was denied), and true; false: it was lost.
func (r *reader) ask(q api.Question) ([]api.Record, bool) {
	tries := map[string]string{}
	for i := range r.setup.Attempts * len(r.setup.Servers) {
		server := r.setup.Servers[(r.first+i)%len(r.setup.Servers)]
		r.id++
		if r.id > 65535 {
			r.id = 1
		}
		b, _ := wire.Encode(api.Message{ID: r.id, Want: true, Question: q})
		r.sent = append(r.sent, read(api.Datagram{To: server, Body: b}))
		tries[fmt.Sprint(r.id, " of ", server)] = string(b)
		switch m := r.try(q, tries); m.Code {
		case 0:
			return slices.DeleteFunc(m.Answers, func(x api.Record) bool { return x.Name != q.Name || x.Type != q.Type }), true
		case 3:
			return nil, true
		}
	}
	return nil, false
}

// next is what a try says that was in vain: the code of the next one.
var next = api.Message{Code: -1}

// try: the message that settles a try.
func (r *reader) try(q api.Question, tries map[string]string) api.Message {
	until := r.now + int64(r.setup.Timeout)
	for {
		switch e := r.await(); {
		case e.kind == over, e.kind == polled && r.now >= until:
			return next
		case e.kind == heard:
			m, asked := accepted(q, tries, e.from, e.body)
			if asked == "" {
				break
			}
			if m.Cut {
				return r.hearStream(q, tries, e.from, asked)
			}
			return m
		}
	}
}

// accepted: the message of body, and what was asked; empty: it is not accepted.
func accepted(q api.Question, tries map[string]string, from, body string) (api.Message, string) {
	m, err := wire.Decode([]byte(body))
	if err != nil || !m.Reply || m.Question != q {
		return next, ""
	}
	return m, tries[fmt.Sprint(m.ID, " of ", from)]
}

// hearStream: the message that settles a try by a stream.
func (r *reader) hearStream(q api.Question, tries map[string]string, server, asked string) api.Message {
	number := len(r.streams)
	r.streams = append(r.streams, api.Stream{To: server, Written: []byte(frame(asked))})
	defer func() { r.streams[number].Closed = true }()
	until, came := r.now+int64(r.setup.Timeout), ""
	for {
		e := r.await()
		if e.kind == over || e.kind == polled && r.now >= until {
			return next
		}
		if e.kind != bytesCame || e.stream != number {
			continue
		}
		came += e.body
		for size := range len(came) - 1 {
			if body := came[2 : 2+size]; strings.HasPrefix(came, frame(body)) {
				m, asked := accepted(q, tries, server, body)
				if asked == "" {
					return next
				}
				return m
			}
		}
		if e.end {
			return next
		}
	}
}

// script is a desk whose lookups are held against the second reading.
type script struct {
	*desk
	*rand.Rand
	second   second
	settings string
	talks    []*talk
	readers  []*reader
	ons      []func(e event)
	stops    []func()
	// rest is what is still to come of streams that were answered.
	rest map[int]string
}

// one of a list, by chance.
func pick[T any](r *rand.Rand, list ...T) T { return list[r.Intn(len(list))] }

// set: other settings.
func (s *script) set() {
	s.settings = ""
	for range s.Intn(4) + s.Intn(2) {
		s.settings += "nameserver " + pick(s.Rand, "1.1.1.1", "2.2.2.2", "3.3.3.3") + "\n"
	}
	s.settings += fmt.Sprintf("options timeout:%d attempts:%d ndots:%d\n", 1+s.Intn(4), 1+s.Intn(3), s.Intn(3)) + pick(s.Rand, "", "options rotate\n")
	s.settings += pick(s.Rand, "", "search x\n", "search x y.z\n")
	s.w.Put(setupPath, []byte(s.settings))
}

// ask: another lookup.
func (s *script) ask() {
	q := pick(s.Rand, hostOf("a"), hostOf("b."), hostOf("A.b"), hostOf("a"), addrOf(s1), addrOf(long(9)))
	_, stamp, _ := s.w.Read(setupPath)
	r, on, stop := s.second.start(q, s.settings, api.Dep{Path: setupPath, Stamp: stamp})
	s.talks, s.readers = append(s.talks, s.begin(q)), append(s.readers, r)
	s.ons, s.stops = append(s.ons, on), append(s.stops, stop)
}

// reply: an answer to one of the last datagrams, in most cases a right one, and from where it comes.
func (s *script) reply() (string, api.Message) {
	all := s.w.Sent()
	number := max(len(all)-1-s.Intn(6), 0)
	from, m := all[number].To, s.answerTo(number, pick(s.Rand, 0, 0, 0, 3, 3, 2, s.Intn(16)))
	m.Cut = s.Intn(4) == 0
	for range s.Intn(5) * s.Intn(3) {
		m.Answers = append(m.Answers, s.recordOf(m.Question))
	}
	switch s.Intn(24) {
	case 0:
		m.ID = (m.ID + 1) % 65536
	case 1:
		from = pick(s.Rand, s1, s2, s3, "")
	case 2:
		m.Reply = false
	case 3:
		m.Question.Name = pick(s.Rand, "a", "a.x", "b")
	case 4:
		m.Question.Type = pick(s.Rand, api.TA, api.TAAAA, api.TPtr)
	}
	return from, m
}

// recordOf: a record that in most cases answers q.
func (s *script) recordOf(q api.Question) api.Record {
	r := api.Record{Name: q.Name, Type: q.Type, TTL: pick(s.Rand, 5, 60, 86400, 1<<31-1, s.Int63n(100000))}
	if s.Intn(6) == 0 {
		r.Name = pick(s.Rand, "a", "a.x", "b")
	}
	if s.Intn(6) == 0 {
		r.Type = pick(s.Rand, api.TA, api.TAAAA, api.TPtr)
	}
	last := byte(s.Intn(50))
	r.Data = map[int]string{api.TA: s2[:3] + string([]byte{last}), api.TAAAA: long(last), api.TPtr: fmt.Sprint("n", last)}[r.Type]
	return r
}

// piece: the next bytes of one of the last streams, and its number.
func (s *script) piece() (int, string) {
	number := len(s.w.Streams()) - 1 - s.Intn(2)
	if s.rest[number] == "" {
		_, m := s.reply()
		s.rest[number] = pick(s.Rand, s.framed(m), s.framed(m), s.framed(m), frame(""), frame("junk"))
	}
	size := min(len(s.rest[number]), pick(s.Rand, 1, 2, 20, 1<<20, 1<<20, 1<<20))
	body := s.rest[number][:size]
	s.rest[number] = s.rest[number][size:]
	return number, body
}

// step: something comes to one of the lookups, and to its second reading.
func (s *script) step() {
	n := max(len(s.talks)-1-s.Intn(3), 0)
	k, on := s.talks[n], s.ons[n]
	switch s.Intn(7) {
	case 0, 1:
		by := pick(s.Rand, 0, 1, 1, 2, 4, 9)
		s.w.Advance(int64(by))
		s.second.now += int64(by)
	case 2, 3, 4:
		from, m := s.reply()
		k.hear(from, m)
		on(event{kind: heard, from: from, body: string(s.written(m))})
	case 5:
		number, body := s.piece()
		end := s.Intn(4) == 0
		k.bytes(number, body, end)
		on(event{kind: bytesCame, stream: number, body: body, end: end})
	}
	got := k.poll()
	on(event{kind: polled})
	expect(s.t, "P16.1 a script: "+s.settings, got, s.readers[n].says)
}

// check holds all that was sent and opened against the second reading.
func (s *script) check() {
	expect(s.t, "P16.1 a script: what was sent", s.sent(), strings.Join(s.second.sent, ", "))
	s.second.sent = nil
	var want []string
	for _, x := range s.second.streams {
		want = append(want, fmt.Sprint(addr.Print(x.To), " ", len(x.Written), " ", x.Closed))
	}
	expect(s.t, "P16.1 a script: streams", s.streams(), strings.Join(want, ", "))
}

// TestAgainstSecond plays scripts with several lookups at one resolver. How they end is counted, so that each end is seen to be held against the second reading.
func TestAgainstSecond(t *testing.T) {
	random := rand.New(rand.NewSource(16))
	ends := map[string]int{}
	streams := 0
	for range 3000 {
		s := &script{desk: open(t, ""), Rand: random, rest: map[int]string{}}
		for len(s.w.Sent()) == 0 {
			s.set()
			s.ask()
		}
		for range 60 {
			switch s.Intn(20) {
			case 0:
				s.set()
			case 1:
				s.ask()
			default:
				s.step()
			}
			s.check()
			if t.Failed() {
				return
			}
		}
		for i, r := range s.readers {
			got := s.talks[i].poll()
			s.ons[i](event{kind: polled})
			expect(t, "P16.1 all lookups of a script", got, r.says)
			_, _, err, done := s.talks[i].op.Poll()
			ends[fmt.Sprint(outcome.Of(err), " ", done)]++
			s.stops[i]()
		}
		streams += len(s.second.streams)
	}
	for _, end := range []string{"found false", "found true", "not found true", "unavailable true", "try again true"} {
		if ends[end] < 500 {
			t.Errorf("P16.1: so many scripts end %s: %d", end, ends[end])
		}
	}
	if streams < 1000 {
		t.Errorf("P16.1: so many streams of scripts: %d", streams)
	}
}
