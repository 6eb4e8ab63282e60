package wire

import (
	"concierge/api"
	"concierge/names"
)

// reader goes through a message; once it is bad, nothing that it answers counts.
type reader struct {
	bytes []byte
	at    int
	bad   bool
}

// check: the message is bad, unless this holds.
func (r *reader) check(holds bool) { r.bad = r.bad || !holds }

// take: the next bytes; none and bad, if there are fewer.
func (r *reader) take(size int) []byte {
	if r.bad || size > len(r.bytes)-r.at {
		r.bad = true
		return nil
	}
	from := r.at
	r.at += size
	return r.bytes[from:r.at]
}

// number: the next bytes as one number, the highest first.
func (r *reader) number(size int) int {
	n := 0
	for _, c := range r.take(size) {
		n = n<<8 | int(c)
	}
	return n
}

// message: the whole of it.
func (r *reader) message() api.Message {
	m := api.Message{ID: r.number(word)}
	flags := r.number(word)
	r.check(flags&flagOperation == 0)
	m.Reply = flags&flagReply != 0
	m.Cut = flags&flagCut != 0
	m.Want = flags&flagWant != 0
	m.Code = flags & flagCode
	r.check(r.number(word) == inNumber)
	answers := r.number(word)
	r.check(answers <= api.MaxRecords)
	// The two numbers behind say nothing.
	r.take(2 * word)
	m.Question.Name, m.Question.Type = r.subject()
	for i := 0; i < answers && !r.bad; i++ {
		m.Answers = append(m.Answers, r.record())
	}
	return m
}

// subject: what a question is, and a record begins with: its name and type.
func (r *reader) subject() (string, int) {
	name, kind := r.name(), r.number(word)
	r.check(kind != 0)
	r.check(r.number(word) == inClass)
	return name, kind
}

// record: an answer.
func (r *reader) record() api.Record {
	name, kind := r.subject()
	ttl := r.number(double)
	r.check(ttl <= maxTTL)
	return api.Record{Name: name, Type: kind, TTL: int64(ttl), Data: r.data(kind)}
}

// data: the data of a record of this type, behind its length.
func (r *reader) data(kind int) string {
	size := r.number(word)
	if kind == api.TPtr {
		end := r.at + size
		name := r.name()
		r.check(r.at == end)
		return name
	}
	data := string(r.take(size))
	r.check(fits(kind, data))
	return data
}

// name: the name that begins here, cleaned; the reader then stands behind what of it stands here.
func (r *reader) name() string {
	whole, behind, low := "", 0, len(r.bytes)
	for !r.bad {
		at := r.at
		size := r.number(octet)
		switch {
		case size >= pointer:
			to := (size-pointer)<<8 | r.number(octet)
			// Each pointer leads below all ahead of it, so that the name ends.
			r.check(to < min(at, low))
			// None ends at the place 0, so 0 says that there was none.
			if behind == 0 {
				behind = r.at
			}
			r.at, low = to, to
		case size > 0:
			whole += r.label(size) + "."
			// Its end would tell it too, but may be thousands of labels away.
			r.check(len(whole) <= api.MaxName+1)
		default:
			if behind > 0 {
				r.at = behind
			}
			return r.clean(whole)
		}
	}
	return ""
}

// label: the next bytes as a label.
func (r *reader) label(size int) string {
	label := string(r.take(size))
	// A point within would be taken for one between labels; all else the whole name tells.
	r.check(names.Dots(label) == 0)
	return label
}

// clean: the name that a point behind each label makes; empty and bad, if it is none.
func (r *reader) clean(rooted string) string {
	name, _, ok := names.Clean(rooted)
	r.check(ok)
	return name
}
