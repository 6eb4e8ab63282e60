package wire

import (
	"concierge/api"
	"concierge/names"
)

// writer puts a message together; once it is bad, its bytes say nothing.
type writer struct {
	bytes []byte
	bad   bool
}

// check: the message is bad, unless this holds.
func (w *writer) check(holds bool) { w.bad = w.bad || !holds }

// word: n, which is not below least, in two bytes, the higher first.
func (w *writer) word(n, least int) {
	w.check(least <= n && n <= maxWord)
	w.bytes = append(w.bytes, byte(n>>8), byte(n))
}

// life: a TTL in four bytes, the highest first.
func (w *writer) life(ttl int64) {
	w.check(0 <= ttl && ttl <= maxTTL)
	w.bytes = append(w.bytes, byte(ttl>>24), byte(ttl>>16), byte(ttl>>8), byte(ttl))
}

// message: the whole of m.
func (w *writer) message(m api.Message) {
	w.word(m.ID, 0)
	w.check(0 <= m.Code && m.Code <= flagCode)
	w.word(flags(m), 0)
	w.word(inNumber, 0)
	w.word(len(m.Answers), 0)
	w.word(0, 0)
	w.word(0, 0)
	w.subject(m.Question.Name, m.Question.Type)
	for _, r := range m.Answers {
		w.record(r)
	}
}

// flags: the flags of m and its code, which the caller has checked.
func flags(m api.Message) int {
	all := m.Code
	if m.Reply {
		all |= flagReply
	}
	if m.Cut {
		all |= flagCut
	}
	if m.Want {
		all |= flagWant
	}
	return all
}

// subject: what a question is, and a record begins with.
func (w *writer) subject(name string, kind int) {
	w.bytes = append(w.bytes, w.coded(name)...)
	w.word(kind, 1)
	w.word(inClass, 0)
}

// coded: a cleaned name as a message has it; empty and bad, if it is none.
func (w *writer) coded(name string) string {
	clean, _, ok := names.Clean(name)
	w.check(ok && clean == name)
	coded, _ := names.Encode(clean)
	return coded
}

// record: an answer.
func (w *writer) record(r api.Record) {
	w.subject(r.Name, r.Type)
	w.life(r.TTL)
	data := w.data(r)
	w.word(len(data), 0)
	w.bytes = append(w.bytes, data...)
}

// data: the data of r as a message has it; empty and bad, if r may not have it.
func (w *writer) data(r api.Record) string {
	if r.Type == api.TPtr {
		return w.coded(r.Data)
	}
	if !fits(r.Type, r.Data) {
		w.bad = true
		return ""
	}
	return r.Data
}
