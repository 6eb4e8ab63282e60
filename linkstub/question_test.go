package linkstub_test

import (
	"fmt"
	"math/rand"
	"slices"
	"strings"
	"testing"

	"concierge/addr"
	"concierge/api"
)

// TestNotHeard: what is no reply of the code 0 says nothing, and what comes behind it counts.
func TestNotHeard(t *testing.T) {
	change := map[string]func(m *api.Message){
		"no reply":                 func(m *api.Message) { m.Reply = false },
		"no reply, as it was sent": func(m *api.Message) { *m = api.Message{Question: m.Question} },
	}
	for code := range 16 {
		if code > 0 {
			change[fmt.Sprint("code ", code)] = func(m *api.Message) { m.Code = code }
			change[fmt.Sprint("no reply, code ", code)] = func(m *api.Message) { m.Reply, m.Code = false, code }
		}
	}
	for why, does := range change {
		k := open(t).begin("a.local")
		m := reply(0, record(s1, 1), record(long(1), 2))
		does(&m)
		k.hear(m)
		k.answer(record(s2, 9))
		k.hear(m)
		k.expectEnd("P17.1 "+why, found("a.local", "2.2.2.2", 9))
		k = k.begin("a.local")
		k.hear(m)
		k.expectEnd("P17.1 nothing but "+why, notFound)
	}
}

// TestJunk: bytes that are no message.
func TestJunk(t *testing.T) {
	k := open(t).begin("a.local")
	h := k.op.(api.Hearer)
	good := k.written(reply(0, record(s1, 5)))
	for n := range good {
		h.Hear(s1, good[:n])
	}
	for _, junk := range []string{"", "junk", strings.Repeat("\x00", 12), strings.Repeat("\xff", 600), strings.Repeat("x", 1<<20), string(good) + strings.Repeat("\x00", api.MaxMessage)} {
		h.Hear(s1, []byte(junk))
		h.Hear(junk, []byte(junk))
	}
	h.Hear("", nil)
	k.expectEnd("P17.1 junk", notFound)
	k = k.begin("a.local")
	k.op.(api.Hearer).Hear(s1, append(good, "what stands behind"...))
	k.expectEnd("P17.1 what stands behind a message", found("a.local", "1.1.1.1", 5))
}

// TestSaysNothing: what of a message, and of who sends it, says nothing.
func TestSaysNothing(t *testing.T) {
	for why, change := range map[string]func(m *api.Message){
		"as it is":           func(m *api.Message) {},
		"an ID":              func(m *api.Message) { m.ID = 77 },
		"the last ID":        func(m *api.Message) { m.ID = 65535 },
		"Cut":                func(m *api.Message) { m.Cut = true },
		"Want":               func(m *api.Message) { m.Want = true },
		"another name asked": func(m *api.Message) { m.Question.Name = "b" },
		"another type asked": func(m *api.Message) { m.Question.Type = api.TAAAA },
		"a far type asked":   func(m *api.Message) { m.Question.Type = 255 },
	} {
		for _, from := range []string{"", s1, long(1), "x", strings.Repeat("\xff", 1<<20)} {
			k := open(t).begin("a.local")
			m := reply(0, record(s2, 9))
			change(&m)
			k.op.(api.Hearer).Hear(from, k.written(m))
			k.expectEnd("P17.1 "+why, found("a.local", "2.2.2.2", 9))
		}
	}
	// Letters of a message are folded when it is read.
	k := open(t).begin("A.local")
	body := string(k.written(reply(0, record(s2, 9))))
	k.op.(api.Hearer).Hear(s1, []byte(strings.ReplaceAll(body, "local", "LoCaL")))
	k.expectEnd("P17.1 letters", found("a.local", "2.2.2.2", 9))
}

// TestRecords: those of the name, and of the two types, are taken, and no others.
func TestRecords(t *testing.T) {
	of := func(name string, kind int, data string) api.Record {
		return api.Record{Name: name, Type: kind, TTL: 1, Data: data}
	}
	others := []api.Record{
		of("b.local", api.TA, s3), of("b.local", api.TAAAA, long(3)), of("local", api.TA, s3), of("a", api.TA, s3), of("a.local.local", api.TA, s3), of("b.a.local", api.TA, s3),
		of("a.local", api.TPtr, "b.local"), of("a.local", 2, s3), of("a.local", 5, s3), of("a.local", 16, long(3)), of("a.local", 99, ""), of("a.local", 257, s3), of("a.local", 65535, s3),
	}
	k := open(t).begin("a.local")
	k.answer(others...)
	k.expectEnd("P17.1 others alone", notFound)
	for _, c := range []struct {
		why     string
		records []api.Record
		want    string
	}{
		{"none", nil, notFound},
		{"one", []api.Record{record(s1, 50)}, found("a.local", "1.1.1.1", 50)},
		{"a long one", []api.Record{record(long(1), 50)}, found("a.local", "::1", 50)},
		{"in order", []api.Record{record(s3, 50), record(long(1), 50), record(s1, 50), record(long(0), 50), record(s2, 50)}, found("a.local", "3.3.3.3 ::1 1.1.1.1 :: 2.2.2.2", 50)},
		{"each once", []api.Record{record(s3, 50), record(long(1), 50), record(s3, 50), record(s1, 50), record(long(1), 50)}, found("a.local", "3.3.3.3 ::1 1.1.1.1", 50)},
		{"behind others", append(slices.Clone(others), record(s1, 50)), found("a.local", "1.1.1.1", 50)},
		{"ahead of others", append([]api.Record{record(s1, 50)}, others...), found("a.local", "1.1.1.1", 50)},
	} {
		k := open(t).begin("a.local")
		k.answer(c.records...)
		k.expectEnd("P17.1 records: "+c.why, c.want)
		// One message for each record.
		k = open(t).begin("a.local")
		for _, r := range c.records {
			k.answer()
			k.answer(r)
		}
		k.expectEnd("P17.1 records apart: "+c.why, c.want)
	}
	// The name alone is asked for, in all of its points.
	k = open(t).begin("local")
	k.answer(record(s1, 5), of("b.local", api.TA, s3), api.Record{Name: "local", Type: api.TA, TTL: 6, Data: s2})
	k.expectEnd("P17.1 the name local", found("local", "2.2.2.2", 6))
}

// TestLife: the least TTL of the records that were taken, those that came twice among them, but no more than a day.
func TestLife(t *testing.T) {
	for _, c := range []struct {
		lives []int64
		want  int64
	}{
		{[]int64{7}, 7},
		{[]int64{0}, 0},
		{[]int64{9, 7, 8}, 7},
		{[]int64{7, 8, 9}, 7},
		{[]int64{9, 0}, 0},
		{[]int64{86399}, 86399},
		{[]int64{86400}, 86400},
		{[]int64{86401}, 86400},
		{[]int64{1<<31 - 1, 1<<31 - 1}, 86400},
		{[]int64{1<<31 - 1, 86000, 1 << 30}, 86000},
	} {
		for _, twice := range []bool{false, true} {
			for _, apart := range []bool{false, true} {
				k := open(t).begin("a.local")
				var records []api.Record
				for i, life := range c.lives {
					data := s1[:3] + string([]byte{byte(i)})
					if twice {
						data = s1
					}
					records = append(records, record(data, life))
				}
				if apart {
					for _, r := range records {
						k.answer(r)
					}
				} else {
					k.answer(records...)
				}
				k.w.Advance(3)
				a, _, err, done := k.op.Poll()
				if a.Life != c.want || err != nil || !done {
					t.Errorf("P17.1: lives %v, twice %t, apart %t: %d, %v, %t, want %d", c.lives, twice, apart, a.Life, err, done, c.want)
				}
			}
		}
	}
}

// fill: n records from this byte on, of short and long addresses in turn.
func fill(from, n int, ttl int64) []api.Record {
	var all []api.Record
	for i := range n {
		last := byte(from + i)
		all = append(all, record([]string{s1[:3] + string([]byte{last}), long(last)}[i%2], ttl))
	}
	return all
}

// printed: the addresses of records.
func printed(records []api.Record) string {
	var all []string
	for _, r := range records {
		all = append(all, addr.Print(r.Data))
	}
	return strings.Join(all, " ")
}

// TestMost: the first 32 addresses of all messages together. No other record is taken, but those that came twice are.
func TestMost(t *testing.T) {
	whole := fill(0, 32, 100)
	for _, c := range []struct {
		why  string
		come [][]api.Record
		life int64
	}{
		{"32", [][]api.Record{whole}, 100},
		{"32 in two messages", [][]api.Record{whole[:20], whole[20:]}, 100},
		{"31 and two", [][]api.Record{whole[:31], {whole[31], record(s3, 5)}}, 100},
		{"32 and 32 others", [][]api.Record{whole, fill(100, 32, 5)}, 100},
		{"32 and one that came twice", [][]api.Record{whole, {record(whole[0].Data, 60)}}, 60},
		{"32 and the last one again", [][]api.Record{whole, {record(s3, 5), record(whole[31].Data, 70)}}, 70},
		{"32, each twice", [][]api.Record{whole, fill(0, 32, 50)}, 50},
		{"one twice, then the others", [][]api.Record{{whole[0], whole[0]}, whole[1:]}, 100},
	} {
		k := open(t).begin("a.local")
		for _, records := range c.come {
			k.answer(records...)
		}
		k.expectEnd("P17.1 so many addresses: "+c.why, found("a.local", printed(whole), c.life))
	}
}

// TestBytes: bytes of streams say nothing.
func TestBytes(t *testing.T) {
	k := open(t).begin("a.local")
	h := k.op.(api.Hearer)
	good := string(k.written(reply(0, record(s1, 5))))
	for _, stream := range []int{0, 1, -1, -1 << 63, 1<<63 - 1} {
		for _, body := range []string{"", "x", good, string([]byte{0, byte(len(good))}) + good, strings.Repeat("x", 1<<20)} {
			h.Bytes(stream, []byte(body), false)
			h.Bytes(stream, []byte(body), true)
		}
		h.Bytes(stream, nil, true)
	}
	k.answer(record(s2, 9))
	k.expectEnd("P17.1 bytes", found("a.local", "2.2.2.2", 9))
	k.expectSent("P17.1 bytes", 2)
}

// TestMemory: what comes in is not changed and not kept, and answers share nothing.
func TestMemory(t *testing.T) {
	k := open(t).begin("a.local")
	body := k.written(reply(0, record(s1, 5), record(long(7), 6)))
	in := append(body[:len(body):len(body)], "spare"...)
	k.op.(api.Hearer).Hear(s1, in[:len(body)])
	expect(t, "P0.3 what was heard", string(in), string(body)+"spare")
	clear(in)
	want := found("a.local", "1.1.1.1 ::7", 5)
	k.expectEnd("P0.3 what was heard", want)
	early, earlyDeps, earlyErr, _ := k.op.Poll()
	spoilt, _, _, _ := k.op.Poll()
	for _, list := range [][]string{spoilt.Names, spoilt.Addrs} {
		for i := range list[:cap(list)] {
			list[:cap(list)][i] = "spoilt"
		}
	}
	expect(t, "P0.3 answered before", told(early, earlyDeps, earlyErr, true), want)
	k.expectPoll("P0.3 answered again", want)
}

// came is a message of a script, as the chapter has what is taken of it.
func came(records []api.Record, m api.Message, name string) []api.Record {
	if !m.Reply || m.Code != 0 {
		return records
	}
	for _, r := range m.Answers {
		if r.Name == name && (r.Type == api.TA || r.Type == api.TAAAA) {
			records = append(records, r)
		}
	}
	return records
}

// reading tells what a question of the name tells at its end, of all records that came for it.
func reading(name string, records []api.Record) string {
	var first []string
	for _, r := range records {
		if !slices.Contains(first, r.Data) && len(first) < 32 {
			first = append(first, r.Data)
		}
	}
	if len(first) == 0 {
		return notFound
	}
	least := int64(86400)
	for _, r := range records {
		if slices.Contains(first, r.Data) {
			least = min(least, r.TTL)
		}
	}
	return told(api.Answer{Names: []string{name}, Addrs: first, Life: least}, nil, nil, true)
}

// chance: a message, in most cases a reply of the code 0, with records of a few names and types.
func chance(r *rand.Rand) api.Message {
	m := api.Message{ID: r.Intn(65536), Reply: r.Intn(8) > 0, Cut: r.Intn(2) == 0, Want: r.Intn(2) == 0, Question: api.Question{Name: "a.local", Type: 1 + r.Intn(30)}}
	if r.Intn(6) == 0 {
		m.Code = r.Intn(16)
	}
	for range r.Intn(20) {
		last := byte(r.Intn(30))
		x := record([]string{s1[:3] + string([]byte{last}), long(last)}[r.Intn(2)], r.Int63n(200000))
		switch r.Intn(8) {
		case 0:
			x.Name = []string{"b.local", "local", "a"}[r.Intn(3)]
		case 1:
			x.Type = 50
		}
		m.Answers = append(m.Answers, x)
	}
	return m
}

// TestAgainstSecond plays scripts of questions, each held against a second reading of the chapter.
func TestAgainstSecond(t *testing.T) {
	random := rand.New(rand.NewSource(17))
	ends := map[bool]int{}
	for range 3000 {
		d := open(t)
		d.w.Advance(random.Int63n(3))
		name := []string{"a.local", "b.local", "local"}[random.Intn(3)]
		k, began := d.begin(name), d.w.Now()
		var records []api.Record
		ended := ""
		for range 12 {
			switch random.Intn(3) {
			case 0:
				m := chance(random)
				k.hear(m)
				if ended == "" {
					records = came(records, m, name)
				}
			case 1:
				d.w.Advance(random.Int63n(3))
			default:
				if ended == "" && d.w.Now() >= began+3 {
					ended = reading(name, records)
				}
				want := ended
				if ended == "" {
					want = waiting
				}
				expect(t, "P17.1 a script", k.poll(), want)
			}
			if t.Failed() {
				return
			}
		}
		if ended != "" {
			ends[ended == notFound]++
		}
		d.expectSent("P17.1 a script", 2)
	}
	for _, way := range []bool{false, true} {
		if ends[way] < 200 {
			t.Errorf("P17.1: so many scripts end not found %t: %d", way, ends[way])
		}
	}
}
