package linkstub

import (
	"slices"

	"concierge/api"
	"concierge/outcome"
	"concierge/wire"
	"concierge/world"
)

// codeFine is the code of a reply that says something of a name.
const codeFine = 0

// question is a name that was asked for, with what was heard of it.
type question struct {
	// world has the clock by which the question is over, once that is as far as until.
	world *world.World
	until int64
	name  string
	// addrs, each once, and life are those of the records that were taken.
	addrs []string
	life  int64
	ended bool
}

// Poll ends o, if its time is over. What it tells is nothing, until o has ended; then it is the same, each time in new memory.
func (o *question) Poll() (api.Answer, []api.Dep, error, bool) {
	o.ended = o.ended || o.world.Now() >= o.until
	switch {
	case !o.ended:
		return api.Answer{}, nil, nil, false
	case len(o.addrs) == 0:
		return api.Answer{}, nil, outcome.Wrap(sourceName, api.NotFound), true
	}
	return api.Answer{Names: []string{o.name}, Addrs: slices.Clone(o.addrs), Life: o.life}, nil, nil, true
}

// Hear takes the addresses of the name that body tells, if it is a reply that says something. Who sends it, and what it was asked, says nothing.
func (o *question) Hear(from string, body []byte) {
	if o.ended {
		return
	}
	m, err := wire.Decode(body)
	if err != nil || !m.Reply || m.Code != codeFine {
		return
	}
	for _, r := range m.Answers {
		if r.Name == o.name && (r.Type == api.TA || r.Type == api.TAAAA) {
			o.take(r)
		}
	}
}

// take keeps what the record r tells, but no address more than may be kept, and of one that isn't kept the life neither.
func (o *question) take(r api.Record) {
	if !slices.Contains(o.addrs, r.Data) {
		if len(o.addrs) == api.MaxAddrs {
			return
		}
		o.addrs = append(o.addrs, r.Data)
	}
	o.life = min(o.life, r.TTL)
}

// Bytes does nothing: all on the link are asked by datagrams alone.
func (o *question) Bytes(stream int, body []byte, end bool) {}
