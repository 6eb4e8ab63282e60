package stub_test

import (
	"fmt"
	"strings"
	"testing"

	"concierge/addr"
	"concierge/api"
)

// long is an address of 16 bytes, the last of which is this one.
func long(last byte) string { return strings.Repeat("\x00", 15) + string([]byte{last}) }

// TestNotAccepted: what is no answer to a try does nothing, and the answer behind it counts.
func TestNotAccepted(t *testing.T) {
	for why, change := range map[string]func(from *string, m *api.Message){
		"another server":            func(from *string, m *api.Message) { *from = s2 },
		"a server not asked yet":    func(from *string, m *api.Message) { *from = s3 },
		"no address":                func(from *string, m *api.Message) { *from = "" },
		"the server as 16 bytes":    func(from *string, m *api.Message) { *from = strings.Repeat("\x00", 10) + "\xff\xff" + s1 },
		"the next ID":               func(from *string, m *api.Message) { m.ID++ },
		"the ID 0":                  func(from *string, m *api.Message) { m.ID = 0 },
		"the last ID":               func(from *string, m *api.Message) { m.ID = 65535 },
		"the ID's bytes turned":     func(from *string, m *api.Message) { m.ID = 0x100 },
		"no reply":                  func(from *string, m *api.Message) { m.Reply = false },
		"no reply, as it was asked": func(from *string, m *api.Message) { *m = api.Message{ID: 1, Want: true, Question: m.Question} },
		"another name":              func(from *string, m *api.Message) { m.Question.Name = "b.x" },
		"the next candidate":        func(from *string, m *api.Message) { m.Question.Name = "a" },
		"the next type":             func(from *string, m *api.Message) { m.Question.Type = api.TAAAA },
		"another type":              func(from *string, m *api.Message) { m.Question.Type = api.TPtr },
	} {
		for code := range 16 {
			for _, cut := range []bool{false, true} {
				d := open(t, three+"search x")
				k := d.begin(hostOf("a"))
				from, m := s1, d.answerTo(0, code, d.record(s2, 9))
				m.Cut = cut
				change(&from, &m)
				k.hear(from, m)
				promise := fmt.Sprintf("P16.1 %s, code %d, cut %t", why, code, cut)
				expect(t, promise, k.poll(), waiting)
				d.expectSent(promise, "1.1.1.1 1 a.x 1")
				expect(t, promise+": streams", d.streams(), "")
				k.answer(0, d.record(s1, 5))
				k.answer(3)
				k.expectPoll(promise+", the answer behind it", found("a.x", "1.1.1.1", 5))
			}
		}
	}
}

// TestJunk: bytes that are no message.
func TestJunk(t *testing.T) {
	d := open(t, one)
	k := d.begin(hostOf("a"))
	h := k.op.(api.Hearer)
	good := d.written(d.answerTo(0, 0, d.record(s2, 9)))
	for n := range good {
		h.Hear(s1, good[:n])
	}
	for _, junk := range []string{"", "junk", strings.Repeat("\x00", 12), strings.Repeat("\xff", 600), strings.Repeat("x", 1<<20), string(good) + strings.Repeat("\x00", api.MaxMessage)} {
		h.Hear(s1, []byte(junk))
		h.Hear(junk, good)
		h.Hear(junk, []byte(junk))
	}
	expect(t, "P16.1 junk", k.poll(), waiting)
	d.expectSent("P16.1 junk", "1.1.1.1 1 a 1")
	h.Hear(s1, append(good, "what stands behind"...))
	d.expectSent("P16.1 behind junk", "1.1.1.1 2 a 28")
}

// TestAccepted: what of a message says nothing.
func TestAccepted(t *testing.T) {
	for why, change := range map[string]func(m *api.Message){
		"as it is":           func(m *api.Message) {},
		"Want":               func(m *api.Message) { m.Want = true },
		"other records":      func(m *api.Message) { m.Answers = append(m.Answers, api.Record{Name: "b", Type: 5, Data: "x"}) },
		"records in between": func(m *api.Message) { m.Answers = append([]api.Record{{Name: "b", Type: 5}}, m.Answers...) },
	} {
		d := open(t, one)
		k := d.begin(hostOf("a"))
		m := d.answerTo(0, 0, d.record(s2, 9))
		change(&m)
		k.hear(s1, m)
		d.expectSent("P16.1 accepted: "+why, "1.1.1.1 1 a 1, 1.1.1.1 2 a 28")
	}
	// Letters of a message are folded when it is read.
	d := open(t, one)
	k := d.begin(hostOf("Gate.E"))
	body := string(d.written(d.answerTo(0, 0, d.record(s2, 9))))
	k.op.(api.Hearer).Hear(s1, []byte(strings.ReplaceAll(body, "gate", "gATE")))
	k.answer(3)
	k.expectPoll("P16.1 letters", found("gate.e", "2.2.2.2", 9))
}

// TestEachTry: each try of the question that is being asked may be answered, by its own server alone.
func TestEachTry(t *testing.T) {
	const tries = 6
	for passed := 1; passed <= tries; passed++ {
		for number := range passed {
			for _, from := range []string{s1, s2, s3} {
				d := open(t, three+"options timeout:1 attempts:2")
				k := d.begin(addrOf(s1))
				for range passed - 1 {
					k.tick(1)
				}
				k.hear(from, d.answerTo(number, 0, d.record("gate", 5)))
				want := waiting
				if from == [...]string{s1, s2, s3}[number%3] {
					want = found("gate", "", 5)
				}
				expect(t, fmt.Sprintf("P16.1 the try %d of %d, from %s", number, passed, addr.Print(from)), k.poll(), want)
				if got := len(d.w.Sent()); got != passed {
					t.Errorf("P16.1: %d tries, not %d", got, passed)
				}
			}
		}
	}
}

// TestPastQuestion: tries of a question that is past aren't heard any more, nor those of other lookups.
func TestPastQuestion(t *testing.T) {
	d := open(t, one+"options attempts:2\nsearch x")
	k := d.begin(hostOf("a"))
	k.tick(5)
	early := d.answerTo(0, 0, d.record(s2, 9))
	k.answer(3)
	d.expectSent("P16.1 the second question", "1.1.1.1 1 a.x 1, 1.1.1.1 2 a.x 1, 1.1.1.1 3 a.x 28")
	other := d.begin(hostOf("a"))
	d.expectSent("P16.1 another lookup", "1.1.1.1 4 a.x 1")
	for range 3 {
		k.hear(s1, early)
		k.hear(s1, d.answerTo(1, 3))
		k.hear(s1, d.answerTo(3, 3))
		other.hear(s1, early)
		other.hear(s1, d.answerTo(2, 3))
	}
	expect(t, "P16.1 what is past", k.poll()+other.poll(), waiting+waiting)
	d.expectSent("P16.1 what is past", "")
	// An ID of the other question, with this one's type.
	m := d.answerTo(2, 3)
	m.ID = 1
	k.hear(s1, m)
	d.expectSent("P16.1 an ID of the past", "")
	k.hear(s1, d.answerTo(2, 3))
	d.expectSent("P16.1 the next candidate", "1.1.1.1 5 a 1")
}

// TestCodes: each code of an answer that isn't cut, with a record that would answer and without one.
func TestCodes(t *testing.T) {
	for code := range 16 {
		for _, records := range []string{"", "x"} {
			d := open(t, two+"options attempts:1")
			k := d.begin(addrOf(s1))
			promise := fmt.Sprintf("P16.1 code %d, records %q", code, records)
			var list []api.Record
			if records != "" {
				list = append(list, d.record("gate", 5))
			}
			k.answer(code, list...)
			switch {
			case code == 0 && records != "":
				k.expectPoll(promise, found("gate", "", 5))
			case code == 0 || code == 3:
				k.expectPoll(promise, notFound)
			default:
				// At once, without a Poll or a tick.
				d.expectSent(promise, "1.1.1.1 1 1.1.1.1.in-addr.arpa 12, 2.2.2.2 2 1.1.1.1.in-addr.arpa 12")
				expect(t, promise, k.tick(4), waiting)
				d.expectSent(promise+", its whole time", "")
				k.answer(code, list...)
				k.expectPoll(promise+", the last try", tryAgain)
			}
		}
	}
}

// TestCodeOfEarlyTry: a code of an early try takes the question to the next one, too, and may do so again.
func TestCodeOfEarlyTry(t *testing.T) {
	d := open(t, two+"options attempts:2")
	k := d.begin(addrOf(s1))
	k.tick(5)
	d.sent()
	k.hear(s1, d.answerTo(0, 2))
	d.expectSent("P16.1 an early try", "1.1.1.1 3 1.1.1.1.in-addr.arpa 12")
	k.hear(s1, d.answerTo(0, 2))
	d.expectSent("P16.1 again", "2.2.2.2 4 1.1.1.1.in-addr.arpa 12")
	k.hear(s1, d.answerTo(0, 2))
	k.expectPoll("P16.1 behind the last try", tryAgain)
}

// TestRecords: those with the question's name and type answer, and no others.
func TestRecords(t *testing.T) {
	a := func(name, data string) api.Record {
		return api.Record{Name: name, Type: api.TA, TTL: 50, Data: data}
	}
	for _, c := range []struct {
		why     string
		records []api.Record
		want    string
	}{
		{"none", nil, notFound},
		{"one", []api.Record{a("a", s1)}, found("a", "1.1.1.1", 50)},
		{"in order", []api.Record{a("a", s3), a("a", s1), a("a", s2)}, found("a", "3.3.3.3 1.1.1.1 2.2.2.2", 50)},
		{"each once", []api.Record{a("a", s3), a("a", s1), a("a", s3), a("a", s1)}, found("a", "3.3.3.3 1.1.1.1", 50)},
		{"another name", []api.Record{a("b", s1), a("a.x", s1), a("a", s2)}, found("a", "2.2.2.2", 50)},
		{"other names alone", []api.Record{a("b", s1), a("a.x", s1)}, notFound},
		{"another type", []api.Record{{Name: "a", Type: api.TAAAA, Data: long(1)}, {Name: "a", Type: 5, Data: "\x01b\x00"}, {Name: "a", Type: api.TPtr, Data: "b"}, a("a", s2)}, found("a", "2.2.2.2", 50)},
		{"other types alone", []api.Record{{Name: "a", Type: api.TAAAA, Data: long(1)}, {Name: "a", Type: 5, Data: s1}, {Name: "a", Type: 257, Data: s1}}, notFound},
		{"lives of others", []api.Record{{Name: "b", Type: api.TA, TTL: 1, Data: s1}, {Name: "a", Type: api.TAAAA, TTL: 2, Data: long(1)}, a("a", s2)}, found("a", "2.2.2.2", 50)},
	} {
		d := open(t, one)
		k := d.begin(hostOf("a"))
		k.answer(0, c.records...)
		d.expectSent("P16.1 records: "+c.why, "1.1.1.1 1 a 1, 1.1.1.1 2 a 28")
		k.answer(3)
		k.expectPoll("P16.1 records: "+c.why, c.want)
	}
}

// TestLife: the least TTL of all records that answered, but no more than a day.
func TestLife(t *testing.T) {
	for _, c := range []struct {
		a, aaaa []int64
		want    int64
	}{
		{[]int64{7}, nil, 7},
		{nil, []int64{7}, 7},
		{[]int64{9, 7, 8}, nil, 7},
		{[]int64{9, 7}, []int64{8}, 7},
		{[]int64{8}, []int64{9, 7}, 7},
		{[]int64{0}, []int64{9}, 0},
		{[]int64{9}, []int64{0}, 0},
		{[]int64{86399}, nil, 86399},
		{[]int64{86400}, nil, 86400},
		{[]int64{86401}, nil, 86400},
		{[]int64{1<<31 - 1}, []int64{1<<31 - 1}, 86400},
		{[]int64{1<<31 - 1}, []int64{86000}, 86000},
	} {
		for _, twice := range []bool{false, true} {
			d := open(t, one)
			k := d.begin(hostOf("a"))
			for i, lives := range [][]int64{c.a, c.aaaa} {
				var records []api.Record
				for n, life := range lives {
					// Records that stand twice count all the same.
					if twice {
						n = 0
					}
					records = append(records, d.record([...]string{s1[:3] + string([]byte{byte(n)}), long(byte(n))}[i], life))
				}
				k.answer(0, records...)
			}
			a, _, err, done := k.op.Poll()
			if a.Life != c.want || err != nil || !done {
				t.Errorf("P16.1: lives %v, %v, twice %t: %d, %v, %t, want %d", c.a, c.aaaa, twice, a.Life, err, done, c.want)
			}
		}
	}
}

// fill: that many records, whose data differ in their last byte, with lives from 1000 down.
func (d *desk) fill(n int, data func(last byte) string) []api.Record {
	var all []api.Record
	for i := range n {
		all = append(all, d.record(data(byte(i)), int64(1000-i)))
	}
	return all
}

// TestMost: the first 32 addresses of both questions together; the lives of the others count.
func TestMost(t *testing.T) {
	short := func(last byte) string { return s1[:3] + string([]byte{last}) }
	for _, c := range [][2]int{{32, 0}, {0, 32}, {31, 1}, {31, 2}, {20, 20}, {32, 1}, {32, 32}, {1, 32}} {
		d := open(t, one)
		k := d.begin(hostOf("a"))
		var want []string
		least := int64(1000 - max(c[0], c[1]) + 1)
		for i, data := range []func(byte) string{short, long} {
			records := d.fill(c[i], data)
			for _, r := range records {
				want = append(want, addr.Print(r.Data))
			}
			k.answer(0, records...)
		}
		k.expectPoll(fmt.Sprint("P16.1 so many addresses: ", c), found("a", strings.Join(want[:min(len(want), 32)], " "), least))
	}
	// The first record stands twice, so that it needs no second place.
	d := open(t, one)
	k := d.begin(hostOf("a"))
	k.answer(0, append(d.fill(31, short), d.record(short(0), 1))...)
	k.answer(0, d.fill(2, long)...)
	a, _, _, _ := k.op.Poll()
	if len(a.Addrs) != 32 || a.Addrs[31] != long(0) || a.Life != 1 {
		t.Errorf("P16.1: 31 addresses, one of them twice, and two: %d, Life %d", len(a.Addrs), a.Life)
	}
}

// TestMostNames: the first 32 names of an address, each once.
func TestMostNames(t *testing.T) {
	d := open(t, one)
	k := d.begin(addrOf(s1))
	k.answer(0, d.fill(32, func(last byte) string { return fmt.Sprint("n", last/2) })...)
	var want []string
	for i := range 16 {
		want = append(want, fmt.Sprint("n", i))
	}
	k.expectPoll("P16.1 names that stand twice", found(strings.Join(want, " "), "", 969))
	k = d.begin(addrOf(s1))
	k.answer(0, d.fill(32, func(last byte) string { return fmt.Sprint("n", last) })...)
	for i := 16; i < 32; i++ {
		want = append(want, fmt.Sprint("n", i))
	}
	k.expectPoll("P16.1 32 names", found(strings.Join(want, " "), "", 969))
}

// TestNames: the names of an address are the data of its pointers.
func TestNames(t *testing.T) {
	d := open(t, one)
	k := d.begin(addrOf(s1))
	k.answer(0, d.record("gate.example", 1<<31-1), api.Record{Name: "b", Type: api.TPtr, Data: "x", TTL: 5}, d.record("n", 1<<31-1), d.record("gate.example", 86399))
	k.expectPoll("P16.1 names", found("gate.example n", "", 86399))
}

// What becomes of a question.
const (
	answered = "answered"
	denied   = "denied"
	empty    = "empty"
	lost     = "lost"
)

// becomes makes the question that is being asked become this; there is one try of it.
func (k *talk) becomes(what string) {
	k.t.Helper()
	data := map[int]string{api.TA: s1, api.TAAAA: long(1), api.TPtr: "gate"}[k.answerTo(-1, 0).Question.Type]
	switch what {
	case answered:
		k.answer(0, k.record(data, 40))
	case denied:
		k.answer(3, k.record(data, 1))
	case empty:
		k.answer(0)
	case lost:
		k.tick(5)
	}
}

// TestCandidateEnds: what both questions of a candidate become, for each candidate of three.
func TestCandidateEnds(t *testing.T) {
	all := []string{answered, denied, empty, lost}
	for ahead, name := range []string{"a.x", "a.y", "a"} {
		for _, first := range all {
			for _, second := range all {
				d := open(t, one+"search x y\noptions attempts:1")
				k := d.begin(hostOf("a"))
				for range 2 * ahead {
					k.becomes(denied)
				}
				k.becomes(first)
				expect(t, "P16.1 one of two questions", k.poll(), waiting)
				k.becomes(second)
				promise := fmt.Sprintf("P16.1 the candidate %s, %s and %s", name, first, second)
				sent := 2 * (ahead + 1)
				switch {
				case first == answered && second == answered:
					k.expectPoll(promise, found(name, "1.1.1.1 ::1", 40))
				case first == answered:
					k.expectPoll(promise, found(name, "1.1.1.1", 40))
				case second == answered:
					k.expectPoll(promise, found(name, "::1", 40))
				case first == lost || second == lost:
					k.expectPoll(promise, tryAgain)
				case ahead == 2:
					k.expectPoll(promise, notFound)
				default:
					k.expectPoll(promise, waiting)
					sent++
				}
				if got := len(d.w.Sent()); got != sent {
					t.Errorf("%s: %d datagrams, not %d", promise, got, sent)
				}
			}
		}
	}
}

// TestAddressEnds: what the one question of an address becomes.
func TestAddressEnds(t *testing.T) {
	for what, want := range map[string]string{answered: found("gate", "", 40), denied: notFound, empty: notFound, lost: tryAgain} {
		for _, a := range []string{s1, long(7)} {
			d := open(t, one+"options attempts:1")
			k := d.begin(addrOf(a))
			k.becomes(what)
			k.expectPoll("P16.1 an address: "+what, want)
			if got := len(d.w.Sent()); got != 1 {
				t.Errorf("P16.1: an address: %d datagrams", got)
			}
		}
	}
}

// TestDone: a lookup that is done answers the same again and again, hears nothing, and does nothing.
func TestDone(t *testing.T) {
	for what, want := range map[string]string{answered: found("a", "1.1.1.1 ::1", 40), denied: notFound, lost: tryAgain} {
		d := open(t, one+"options attempts:1")
		k := d.begin(hostOf("a"))
		k.becomes(what)
		k.becomes(what)
		d.sent()
		for number := range 2 {
			for _, code := range []int{0, 2, 3} {
				m := d.answerTo(number, code)
				k.hear(s1, m)
				m.Cut = true
				k.hear(s1, m)
				k.op.(api.Hearer).Bytes(0, d.written(m), true)
				expect(t, "P16.1 done, "+what, k.tick(50), want)
			}
		}
		d.w.Put(setupPath, []byte(three))
		k.expectPoll("P16.1 done, with other settings, "+what, want)
		d.expectSent("P16.1 done, "+what, "")
		expect(t, "P16.1 done, "+what, d.streams(), "")
	}
}

// TestErrors: each error is one of its code, wrapped for dns.
func TestErrors(t *testing.T) {
	for what, want := range map[string]api.Code{denied: api.NotFound, lost: api.TryAgain} {
		d := open(t, one+"options attempts:1")
		k := d.begin(addrOf(s1))
		k.becomes(what)
		_, _, err, _ := k.op.Poll()
		wrapped, ok := err.(*api.SourceError)
		if !ok || wrapped.Source != "dns" || wrapped.Err != error(want) {
			t.Errorf("P16.1: %s: %#v", what, err)
		}
	}
}
