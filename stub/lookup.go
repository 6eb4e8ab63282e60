package stub

import (
	"slices"

	"concierge/api"
	"concierge/outcome"
	"concierge/wire"
)

// Codes of replies that say something of the question.
const (
	codeFine   = 0
	codeNoName = 3
)

// lookup is a query on its way through its questions: each of the subjects with each of the kinds.
type lookup struct {
	stub *Stub
	dep  api.Dep
	// setup has its servers in the order in which they are tried.
	setup api.Setup
	// subjects are the names that are left, the first of which is being asked for.
	subjects []string
	kinds    []int
	// kind is the place of the one that is being asked for.
	kind int
	// tries are those of the question that is being asked.
	tries []try
	// until is when the last try, or the stream, is over.
	until int64
	// stream is the one that is heard, nil where datagrams are.
	stream *stream
	// data, each once, and life are those of the records that answered.
	data []string
	life int64
	// lost: a question of this subject was. It needs no reset, as behind such a subject the lookup ends.
	lost   bool
	ended  bool
	code   api.Code
	answer api.Answer
}

// try is a question that was sent to a server.
type try struct {
	id     int
	server string
}

// Poll goes on to the next try, if the time of the last one is over. What it tells is nothing, until l has ended; then it is the same, each time in new memory.
func (l *lookup) Poll() (api.Answer, []api.Dep, error, bool) {
	if !l.ended && l.stub.world.Now() >= l.until {
		l.hangUp()
		l.nextTry()
	}
	if !l.ended {
		return api.Answer{}, nil, nil, false
	}
	a := l.answer
	a.Names, a.Addrs = slices.Clone(a.Names), slices.Clone(a.Addrs)
	return a, []api.Dep{l.dep}, failure(l.code), true
}

// failure: the code as an error of this source; nil of Found.
func failure(code api.Code) error {
	if code == api.Found {
		return nil
	}
	return outcome.Wrap(sourceName, code)
}

// Hear takes body as an answer, if it is one that may be accepted and no stream is heard.
func (l *lookup) Hear(from string, body []byte) {
	if l.stream != nil {
		return
	}
	m, ok := l.accept(from, body)
	switch {
	case !ok:
		return
	case m.Cut:
		l.openStream(try{m.ID, from})
	default:
		l.settle(m)
	}
}

// accept: the message that body is, and true, if it answers one of the question's tries and comes from where that was sent to.
func (l *lookup) accept(from string, body []byte) (api.Message, bool) {
	m, err := wire.Decode(body)
	// Behind the end there are no tries, and no question that could be held against the message's.
	if err != nil || !m.Reply || !slices.Contains(l.tries, try{m.ID, from}) || m.Question != l.question() {
		return api.Message{}, false
	}
	return m, true
}

// question: the one that is being asked.
func (l *lookup) question() api.Question {
	return api.Question{Name: l.subjects[0], Type: l.kinds[l.kind]}
}

// message: the bytes of a try with that ID.
func (l *lookup) message(id int) []byte {
	// A subject is a cleaned name, so there is nothing that couldn't be written.
	body, _ := wire.Encode(api.Message{ID: id, Want: true, Question: l.question()})
	return body
}

// nextTry sends the question to the next server; it is lost, if all were tried as often as they may be.
func (l *lookup) nextTry() {
	servers, past := l.setup.Servers, len(l.tries)
	if past == l.setup.Attempts*len(servers) {
		l.lost = true
		l.endQuestion()
		return
	}
	next := try{id: l.stub.nextID(), server: servers[past%len(servers)]}
	l.tries = append(l.tries, next)
	l.stub.world.Send(api.Datagram{To: next.server, Body: l.message(next.id)})
	l.wait()
}

// wait: from now on until a timeout is over.
func (l *lookup) wait() { l.until = l.stub.world.Now() + int64(l.setup.Timeout) }

// settle does what an accepted message says.
func (l *lookup) settle(m api.Message) {
	switch m.Code {
	case codeFine:
		l.keep(m.Answers)
		l.endQuestion()
	case codeNoName:
		l.endQuestion()
	default:
		l.nextTry()
	}
}

// keep takes what those of the records tell that answer the question.
func (l *lookup) keep(records []api.Record) {
	asked := l.question()
	for _, r := range records {
		if r.Name != asked.Name || r.Type != asked.Type {
			continue
		}
		l.life = min(l.life, r.TTL)
		if len(l.data) < api.MaxAddrs && !slices.Contains(l.data, r.Data) {
			l.data = append(l.data, r.Data)
		}
	}
}

// endQuestion goes on behind a question, whether it was answered, denied or lost.
func (l *lookup) endQuestion() {
	l.tries = nil
	l.kind++
	if l.kind == len(l.kinds) {
		l.endSubject()
		return
	}
	l.nextTry()
}

// endSubject goes on behind all questions of a subject.
func (l *lookup) endSubject() {
	switch {
	case len(l.data) > 0:
		l.end(api.Found, l.found())
	case l.lost:
		l.end(api.TryAgain, api.Answer{})
	case len(l.subjects) == 1:
		l.end(api.NotFound, api.Answer{})
	default:
		l.subjects, l.kind = l.subjects[1:], 0
		l.nextTry()
	}
}

// found: the answer that the data make, which are names where pointers were asked for.
func (l *lookup) found() api.Answer {
	if l.kinds[0] == api.TPtr {
		return api.Answer{Names: l.data, Life: l.life}
	}
	return api.Answer{Names: l.subjects[:1], Addrs: l.data, Life: l.life}
}

// end: l tells this from now on. Of what it asked nothing is kept, so that whatever it hears is no answer.
func (l *lookup) end(code api.Code, a api.Answer) {
	*l = lookup{dep: l.dep, ended: true, code: code, answer: a}
}
