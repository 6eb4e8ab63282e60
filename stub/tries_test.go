package stub_test

import (
	"fmt"
	"math"
	"strings"
	"testing"

	"concierge/api"
	"concierge/wire"
)

// TestTry: all of a datagram.
func TestTry(t *testing.T) {
	d := open(t, one)
	d.begin(hostOf("Gate.E."))
	all := d.w.Sent()
	if len(all) != 1 || all[0].To != s1 || all[0].Link {
		t.Fatalf("P16.1: %v", all)
	}
	expect(t, "P16.1 its bytes", fmt.Sprintf("%q", all[0].Body), fmt.Sprintf("%q", "\x00\x01\x01\x00\x00\x01\x00\x00\x00\x00\x00\x00\x04gate\x01e\x00\x00\x01\x00\x01"))
	m, err := wire.Decode(all[0].Body)
	want := api.Message{ID: 1, Want: true, Question: api.Question{Name: "gate.e", Type: api.TA}}
	if err != nil || fmt.Sprintf("%#v", m) != fmt.Sprintf("%#v", want) {
		t.Errorf("P16.1: %#v, %v", m, err)
	}
}

// order: the servers of all tries of one question.
func order(servers, attempts, first int) []string {
	var all []string
	for range attempts {
		for i := range servers {
			n := (first+i)%servers + 1
			all = append(all, fmt.Sprintf("%d.%d.%d.%d", n, n, n, n))
		}
	}
	return all
}

// TestTries: each number of servers and attempts, none of which answers, and each first server; each try waits to the tick.
func TestTries(t *testing.T) {
	for servers, list := range map[int]string{1: one, 2: two, 3: three} {
		for attempts := 1; attempts <= 5; attempts++ {
			for before := range 5 {
				for _, rotate := range []string{"", " rotate"} {
					d := open(t, list+fmt.Sprintf("options timeout:3 attempts:%d", attempts)+rotate)
					for range before {
						d.begin(addrOf(s1))
					}
					d.sent()
					first := 0
					if rotate != "" {
						first = before
					}
					expectLost(t, d, before, order(servers, attempts, first))
				}
			}
		}
	}
}

// expectLost: a lookup of the name a, behind that many tries of others, asks both its questions of these servers in this order, and is lost.
func expectLost(t *testing.T, d *desk, id int, servers []string) {
	t.Helper()
	k := d.begin(hostOf("a"))
	for _, kind := range []int{api.TA, api.TAAAA} {
		for _, s := range servers {
			id++
			d.expectSent("P16.1 tries", fmt.Sprintf("%s %d a %d", s, id, kind))
			for range 3 {
				expect(t, "P16.1 ahead of the time", k.poll(), waiting)
				d.expectSent("P16.1 ahead of the time", "")
				d.w.Advance(1)
			}
			k.poll()
		}
	}
	k.expectPoll("P16.1 lost", tryAgain)
	d.expectSent("P16.1 lost", "")
}

// TestTimeouts: each number of ticks that the settings may ask for, in one step and in several, early ones too.
func TestTimeouts(t *testing.T) {
	for n := int64(1); n <= 30; n++ {
		d := open(t, one+fmt.Sprintf("options timeout:%d attempts:3", n))
		d.w.Advance(1000)
		k := d.begin(addrOf(s1))
		expect(t, "P16.1 a tick early", k.tick(n-1), waiting)
		d.expectSent(fmt.Sprint("P16.1 a tick early, timeout ", n), "1.1.1.1 1 1.1.1.1.in-addr.arpa 12")
		expect(t, "P16.1 in time", k.tick(1), waiting)
		d.expectSent(fmt.Sprint("P16.1 in time, timeout ", n), "1.1.1.1 2 1.1.1.1.in-addr.arpa 12")
		expect(t, "P16.1 one step", k.tick(n), waiting)
		d.expectSent(fmt.Sprint("P16.1 one step, timeout ", n), "1.1.1.1 3 1.1.1.1.in-addr.arpa 12")
		expect(t, "P16.1 one step", k.tick(n), tryAgain)
	}
	d := open(t, one)
	k := d.begin(hostOf("a"))
	expect(t, "P16.1 the usual timeout", k.tick(4), waiting)
	d.expectSent("P16.1 the usual timeout", "1.1.1.1 1 a 1")
	k.tick(1)
	d.expectSent("P16.1 the usual timeout", "1.1.1.1 2 a 1")
	k.tick(5)
	d.expectSent("P16.1 the usual attempts", "1.1.1.1 3 a 28")
}

// TestLeaps: however far the clock goes, one Poll sends one try, and that one waits from then on.
func TestLeaps(t *testing.T) {
	d := open(t, two+"options timeout:4 attempts:1")
	k := d.begin(hostOf("a"))
	d.expectSent("P16.1 the first try", "1.1.1.1 1 a 1")
	for i, want := range []string{"2.2.2.2 2 a 1", "1.1.1.1 3 a 28", "2.2.2.2 4 a 28"} {
		d.w.Advance(400 + int64(i))
		for range 3 {
			expect(t, "P16.1 a leap", k.poll(), waiting)
		}
		d.expectSent("P16.1 a leap", want)
		expect(t, "P16.1 a tick early", k.tick(3), waiting)
		d.expectSent("P16.1 it waits from then on", "")
	}
	expect(t, "P16.1 the last one", k.tick(1), tryAgain)
	d.expectSent("P16.1 the last one", "")
}

// TestClockAlone: it is the Poll that does what the clock says, so nothing is sent ahead of it, and an answer that comes ahead of it counts.
func TestClockAlone(t *testing.T) {
	d := open(t, one+"options timeout:1 attempts:1")
	k := d.begin(addrOf(s1))
	d.sent()
	d.w.Advance(100)
	d.expectSent("P16.1 no Poll", "")
	k.answer(0, d.record("late", 9))
	k.expectPoll("P16.1 late, but ahead of the Poll", found("late", "", 9))
}

// TestClockStops: at its end the clock gets no further, and a try that would be over behind it waits for ever.
func TestClockStops(t *testing.T) {
	d := open(t, one)
	d.w.Advance(math.MaxInt64)
	k := d.begin(hostOf("a"))
	for range 50 {
		expect(t, "P0.6 the clock's end", k.tick(math.MaxInt64), waiting)
	}
	d.expectSent("P0.6 the clock's end", "1.1.1.1 1 a 1")
	k.answer(0, d.record(s1, 3))
	k.answer(3)
	k.expectPoll("P0.6 the clock's end", found("a", "1.1.1.1", 3))
}

// TestSettledStartsAnew: a question that is settled early gives the next one its whole time and all its tries.
func TestSettledStartsAnew(t *testing.T) {
	d := open(t, two+"options timeout:5 attempts:2")
	k := d.begin(hostOf("a"))
	k.tick(5)
	k.tick(4)
	d.expectSent("P16.1 the first question", "1.1.1.1 1 a 1, 2.2.2.2 2 a 1")
	k.answer(3)
	k.tick(4)
	d.expectSent("P16.1 its whole time", "1.1.1.1 3 a 28")
	for _, want := range []string{"2.2.2.2 4 a 28", "1.1.1.1 5 a 28", "2.2.2.2 6 a 28"} {
		expect(t, "P16.1 all its tries", k.tick(5), waiting)
		d.expectSent("P16.1 all its tries", want)
	}
	expect(t, "P16.1 all its tries", k.tick(5), tryAgain)
}

// TestRotate: the lookups that sent a first try turn the servers, whatever they ask and however they go on.
func TestRotate(t *testing.T) {
	d := open(t, three+"options rotate attempts:1 timeout:1\nsearch x")
	firsts := func(want string) {
		t.Helper()
		got := strings.Fields(d.sent())
		expect(t, "P16.1 the first server", got[0], want)
	}
	k := d.begin(hostOf("a"))
	firsts("1.1.1.1")
	k.tick(1)
	firsts("2.2.2.2")
	d.begin(addrOf(s1))
	firsts("2.2.2.2")
	k.answer(3)
	d.s.Begin(hostOf("!"))
	d.begin(hostOf("b"))
	firsts("3.3.3.3")
	k.tick(1)
	firsts("3.3.3.3")
	d.w.Put(setupPath, nil)
	d.begin(hostOf("a"))
	// Without rotate the lookups count, too, but begin with the first server.
	d.w.Put(setupPath, []byte(three))
	d.begin(hostOf("a"))
	firsts("1.1.1.1")
	d.w.Put(setupPath, []byte(two+"options rotate"))
	d.begin(hostOf("a"))
	firsts("1.1.1.1")
	d.begin(hostOf("a"))
	firsts("2.2.2.2")
	d.w.Put(setupPath, []byte(one+"options rotate"))
	d.begin(hostOf("a"))
	firsts("1.1.1.1")
	d.w.Put(setupPath, []byte(three+"options rotate"))
	d.begin(hostOf("a"))
	firsts("2.2.2.2")
}

// TestRotateQuestions: each question of a lookup begins with the same server, whatever others began meanwhile.
func TestRotateQuestions(t *testing.T) {
	d := open(t, three+"options rotate\nsearch x")
	d.begin(addrOf(s1))
	k := d.begin(hostOf("a"))
	d.begin(addrOf(s1))
	d.sent()
	k.hear(s2, d.answerTo(1, 3))
	d.expectSent("P16.1 the second question", "2.2.2.2 4 a.x 28")
	k.answer(2)
	d.expectSent("P16.1 its second try", "3.3.3.3 5 a.x 28")
	k.answer(2)
	d.expectSent("P16.1 its third try", "1.1.1.1 6 a.x 28")
	k.answer(2)
	d.expectSent("P16.1 its fourth try", "2.2.2.2 7 a.x 28")
	k.answer(3)
	d.expectSent("P16.1 the second candidate", "2.2.2.2 8 a 1")
}

// TestSameServer: one that stands in the settings again is tried again.
func TestSameServer(t *testing.T) {
	d := open(t, one+one+"nameserver 2.2.2.2\noptions attempts:1 timeout:1")
	k := d.begin(addrOf(s1))
	for range 3 {
		k.tick(1)
	}
	const name = "1.1.1.1.in-addr.arpa"
	d.expectSent("P16.1 a server that comes again", "1.1.1.1 1 "+name+" 12, 1.1.1.1 2 "+name+" 12, 2.2.2.2 3 "+name+" 12")
	k.expectPoll("P16.1 a server that comes again", tryAgain)
}

// TestLongServer: a server's address may have 16 bytes.
func TestLongServer(t *testing.T) {
	d := open(t, "nameserver fe80::1")
	k := d.begin(addrOf(s1))
	d.expectSent("P16.1 a server of 16 bytes", "fe80::1 1 1.1.1.1.in-addr.arpa 12")
	k.answer(0, d.record("gate", 5))
	k.expectPoll("P16.1 a server of 16 bytes", found("gate", "", 5))
}

// TestIDs: those of one resolver are counted over all its lookups, and begin anew behind 65,535; those of another are its own.
func TestIDs(t *testing.T) {
	d := open(t, one+"options timeout:1 attempts:5")
	other := &desk{t: t, w: d.w}
	*other = *open(t, one)
	k := d.begin(hostOf("a"))
	for range 65533 {
		d.s.Begin(addrOf(s1))
	}
	all := d.w.Sent()
	for i, sent := range all {
		if id := int(sent.Body[0])<<8 | int(sent.Body[1]); id != i+1 {
			t.Fatalf("P16.1: the try %d has the ID %d", i+1, id)
		}
	}
	d.sent()
	for _, want := range []string{"1.1.1.1 65535 a 1", "1.1.1.1 1 a 1", "1.1.1.1 2 a 1"} {
		k.tick(1)
		d.expectSent("P16.1 behind 65,534", want)
	}
	other.begin(hostOf("a"))
	other.expectSent("P16.1 another resolver", "1.1.1.1 1 a 1")
	// The first try had the ID 1, too.
	k.hear(s1, d.answerTo(-2, 3))
	d.expectSent("P16.1 an ID behind 65,535", "1.1.1.1 3 a 28")
}
