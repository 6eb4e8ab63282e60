package stub_test

import (
	"fmt"
	"math"
	"strings"
	"testing"

	"concierge/api"
)

// reverse is the name that lookups of s1 ask for.
const reverse = "1.1.1.1.in-addr.arpa"

// writtenBytes is how many bytes are written to a stream that asks for it: a length, what a message begins with, the name, its type and class.
const writtenBytes = 2 + 12 + len(reverse) + 2 + 4

// asks: the first datagrams of a lookup of s1, to servers of these numbers.
func asks(servers ...int) string {
	var all []string
	for i, n := range servers {
		all = append(all, fmt.Sprintf("%d.%d.%d.%d %d %s 12", n, n, n, n, i+1, reverse))
	}
	return strings.Join(all, ", ")
}

// framed: a message's bytes behind their length.
func (d *desk) framed(m api.Message) string {
	d.t.Helper()
	return frame(string(d.written(m)))
}

// frame: bytes behind their length.
func frame(body string) string {
	return string([]byte{byte(len(body) >> 8), byte(len(body))}) + body
}

// bytes: the lookup hears bytes of a stream.
func (k *talk) bytes(stream int, body string, end bool) {
	k.op.(api.Hearer).Bytes(stream, []byte(body), end)
}

// cut: the lookup hears that the answer to the datagram of that number is cut.
func (k *talk) cut(number int) {
	k.t.Helper()
	all := k.w.Sent()
	m := k.answerTo(number, 0)
	m.Cut = true
	if number < 0 {
		number += len(all)
	}
	k.hear(all[number].To, m)
}

// cutLookup: a lookup of s1 with these settings whose first answer was cut, and the answer that it waits for.
func cutLookup(t *testing.T, settings string) (*talk, api.Message) {
	k := open(t, settings).begin(addrOf(s1))
	k.cut(0)
	return k, k.answerTo(0, 0, k.record("gate", 5))
}

// TestOpen: a stream to the server, with the try's message; nothing else is sent.
func TestOpen(t *testing.T) {
	for code := range 16 {
		d := open(t, two)
		d.w.Open("ahead")
		k := d.begin(addrOf(s1))
		m := d.answerTo(0, code, d.record("gate", 5))
		m.Cut = true
		k.hear(s1, m)
		all := d.w.Streams()
		if len(all) != 2 || all[1].To != s1 || all[1].Closed || string(all[1].Written) != frame(string(d.w.Sent()[0].Body)) {
			t.Errorf("P16.1: a stream, code %d: %v", code, all)
		}
		k.expectPoll("P16.1 a stream", waiting)
		d.expectSent("P16.1 a stream", asks(1))
	}
}

// TestOpenLong: the length of a message of more than 255 bytes.
func TestOpenLong(t *testing.T) {
	name := strings.Repeat("a.", 126) + "a"
	d := open(t, one)
	k := d.begin(hostOf(name))
	k.cut(0)
	sent := string(d.w.Sent()[0].Body)
	all := d.w.Streams()
	if len(sent) < 256 || len(all) != 1 || string(all[0].Written) != string([]byte{1, byte(len(sent) - 256)})+sent {
		t.Errorf("P16.1: a long message: %d, %v", len(sent), all)
	}
	k.bytes(0, d.framed(d.answerTo(0, 0, d.record(s1, 4))), false)
	k.answer(3)
	k.expectPoll("P16.1 a long message", found(name, "1.1.1.1", 4))
}

// TestOpenEarlyTry: the stream goes to the server of the try that was cut, with that try's message.
func TestOpenEarlyTry(t *testing.T) {
	for number, to := range []string{s1, s2, s3} {
		d := open(t, three)
		k := d.begin(addrOf(s1))
		k.tick(5)
		k.tick(5)
		k.cut(number)
		all := d.w.Streams()
		if len(all) != 1 || all[0].To != to || string(all[0].Written) != frame(string(d.w.Sent()[number].Body)) {
			t.Errorf("P16.1: a stream for the try %d: %v", number, all)
		}
		// The last try's time is no longer waited for.
		d.expectSent("P16.1 ahead of a stream", asks(1, 2, 3))
		k.tick(4)
		d.expectSent("P16.1 a stream's time", "")
		k.bytes(0, "", true)
		d.expectSent("P16.1 behind a stream", fmt.Sprintf("1.1.1.1 4 %s 12", reverse))
	}
}

// TestPieces: a message in pieces of each size, and in two pieces of each length, with bytes behind it.
func TestPieces(t *testing.T) {
	k, m := cutLookup(t, one)
	whole := k.framed(m)
	for _, behind := range []string{"", "x", whole} {
		for _, end := range []bool{false, true} {
			for size := 1; size <= len(whole); size++ {
				k, _ = cutLookup(t, one)
				rest := whole
				for len(rest) > size {
					k.bytes(0, rest[:size], false)
					rest = rest[size:]
					expect(t, "P16.1 a piece", k.poll(), waiting)
				}
				expect(t, "P16.1 pieces: ahead of the last", k.streams(), fmt.Sprintf("1.1.1.1 %d false", writtenBytes))
				k.bytes(0, rest+behind, end)
				k.expectPoll(fmt.Sprint("P16.1 pieces of ", size), found("gate", "", 5))
				k.expectSent("P16.1 pieces", asks(1))
			}
			for at := range len(whole) {
				k, _ = cutLookup(t, one)
				k.bytes(0, whole[:at], false)
				k.bytes(0, "", false)
				expect(t, "P16.1 a piece", k.poll(), waiting)
				k.bytes(0, whole[at:]+behind, end)
				k.expectPoll(fmt.Sprint("P16.1 two pieces at ", at), found("gate", "", 5))
			}
		}
	}
}

// TestStreamCloses: the stream is closed, whatever ends it.
func TestStreamCloses(t *testing.T) {
	closed := fmt.Sprintf("1.1.1.1 %d true", writtenBytes)
	for why, does := range map[string]func(k *talk, m api.Message){
		"answered":         func(k *talk, m api.Message) { k.bytes(0, k.framed(m), false) },
		"answered, at end": func(k *talk, m api.Message) { k.bytes(0, k.framed(m), true) },
		"denied":           func(k *talk, m api.Message) { m.Code = 3; k.bytes(0, k.framed(m), false) },
		"another code":     func(k *talk, m api.Message) { m.Code = 2; k.bytes(0, k.framed(m), false) },
		"not accepted":     func(k *talk, m api.Message) { m.Reply = false; k.bytes(0, k.framed(m), false) },
		"no message":       func(k *talk, m api.Message) { k.bytes(0, frame("junk"), false) },
		"ended":            func(k *talk, m api.Message) { k.bytes(0, "", true) },
		"time over":        func(k *talk, m api.Message) { k.tick(5) },
	} {
		k, m := cutLookup(t, one)
		does(k, m)
		expect(t, "P16.1 a stream, "+why, k.streams(), closed)
		// Nothing of it is heard any more.
		before := k.poll()
		k.sent()
		k.bytes(0, k.framed(m), false)
		k.bytes(0, "", true)
		expect(t, "P16.1 behind a stream, "+why, k.poll(), before)
		k.expectSent("P16.1 behind a stream, "+why, "")
	}
}

// TestStreamCodes: each code of a stream's message, cut or not.
func TestStreamCodes(t *testing.T) {
	for code := range 16 {
		for _, cut := range []bool{false, true} {
			for _, records := range []bool{false, true} {
				k, m := cutLookup(t, two+"options attempts:1")
				m.Code, m.Cut = code, cut
				if !records {
					m.Answers = nil
				}
				k.bytes(0, k.framed(m), false)
				promise := fmt.Sprintf("P16.1 a stream's code %d, cut %t, records %t", code, cut, records)
				expect(t, promise+": streams", fmt.Sprint(len(k.w.Streams())), "1")
				switch {
				case code == 0 && records:
					k.expectPoll(promise, found("gate", "", 5))
				case code == 0 || code == 3:
					k.expectPoll(promise, notFound)
				default:
					k.expectPoll(promise, waiting)
					k.expectSent(promise, asks(1, 2))
					k.answer(3)
					k.expectPoll(promise+", then denied", notFound)
				}
			}
		}
	}
}

// TestStreamNotAccepted: a stream's message that is no answer, or none at all, takes the question to the next try at once.
func TestStreamNotAccepted(t *testing.T) {
	k, m := cutLookup(t, two)
	good := k.framed(m)
	for why, body := range map[string]string{
		"no bytes":              frame(""),
		"no bytes, and more":    frame("") + good,
		"one byte":              frame("x"),
		"a message without end": frame(good[2 : len(good)-1]),
		"its end behind it":     frame(good[2:len(good)-1]) + good[len(good)-1:],
		"another order":         string([]byte{good[1], good[0]}) + good[2:] + strings.Repeat("x", 65535),
		"too long":              frame(good[2:] + strings.Repeat("x", 4097-len(good)+2)),
		"the longest":           frame(strings.Repeat("\xff", 65535)),
	} {
		k, _ := cutLookup(t, two)
		k.bytes(0, body, false)
		expect(t, "P16.1 a stream with "+why, k.poll(), waiting)
		k.expectSent("P16.1 a stream with "+why, asks(1, 2))
		expect(t, "P16.1 the next try waits", k.tick(4), waiting)
		k.expectSent("P16.1 the next try waits", "")
	}
	for why, change := range map[string]func(m *api.Message){
		"another ID":   func(m *api.Message) { m.ID = 2 },
		"the ID 0":     func(m *api.Message) { m.ID = 0 },
		"no reply":     func(m *api.Message) { m.Reply = false },
		"another name": func(m *api.Message) { m.Question.Name = "a" },
		"another type": func(m *api.Message) { m.Question.Type = api.TA },
	} {
		k, m := cutLookup(t, two)
		change(&m)
		k.bytes(0, k.framed(m), false)
		expect(t, "P16.1 a stream with "+why, k.poll(), waiting)
		k.expectSent("P16.1 a stream with "+why, asks(1, 2))
	}
	// As long as may be.
	k, _ = cutLookup(t, two)
	k.bytes(0, frame(good[2:]+strings.Repeat("x", 4096-len(good)+2)), false)
	k.expectPoll("P16.1 a stream with 4096 bytes", found("gate", "", 5))
	// What stands behind the message doesn't make it longer.
	k, _ = cutLookup(t, two)
	k.bytes(0, good+strings.Repeat("x", 1<<20), true)
	k.expectPoll("P16.1 a stream with many bytes behind", found("gate", "", 5))
}

// TestStreamOfAnotherTry: a stream's message may answer another try, but of that server alone.
func TestStreamOfAnotherTry(t *testing.T) {
	for number, want := range []string{found("gate", "", 5), tryAgain, found("gate", "", 5), tryAgain} {
		d := open(t, two)
		k := d.begin(addrOf(s1))
		for range 3 {
			k.tick(5)
		}
		k.cut(2)
		d.sent()
		k.bytes(0, d.framed(d.answerTo(number, 0, d.record("gate", 5))), false)
		expect(t, fmt.Sprint("P16.1 a stream of the try 2, with an answer to ", number), k.poll(), want)
		d.expectSent("P16.1 a stream of another try", "")
	}
	// A try that wasn't sent yet is none.
	k, m := cutLookup(t, one)
	m.ID = 2
	k.bytes(0, k.framed(m), false)
	k.expectSent("P16.1 a stream of a try that is to come", asks(1, 1))
}

// TestStreamEnds: an end ahead of the whole message takes the question to the next try at once.
func TestStreamEnds(t *testing.T) {
	k, m := cutLookup(t, two)
	whole := k.framed(m)
	for at := range len(whole) {
		for _, apart := range []bool{false, true} {
			k, _ = cutLookup(t, two)
			if apart {
				k.bytes(0, whole[:at], false)
				k.bytes(0, "", true)
			} else {
				k.bytes(0, whole[:at], true)
			}
			expect(t, fmt.Sprint("P16.1 an end at ", at), k.poll(), waiting)
			k.expectSent(fmt.Sprint("P16.1 an end at ", at), asks(1, 2))
		}
	}
}

// TestStreamTime: a stream is heard for as long as a try is waited for, from its opening on, however late bytes came.
func TestStreamTime(t *testing.T) {
	for n := int64(1); n <= 30; n++ {
		d := open(t, two+fmt.Sprintf("options timeout:%d", n))
		k := d.begin(addrOf(s1))
		expect(t, "P16.1 ahead of a stream", k.tick(n-1), waiting)
		k.cut(0)
		expect(t, "P16.1 a stream, a tick early", k.tick(n-1), waiting)
		k.bytes(0, "\x00", false)
		d.expectSent(fmt.Sprint("P16.1 a stream, a tick early, timeout ", n), asks(1))
		expect(t, "P16.1 a stream, in time", k.tick(1), waiting)
		d.expectSent(fmt.Sprint("P16.1 a stream, in time, timeout ", n), fmt.Sprintf("2.2.2.2 2 %s 12", reverse))
		expect(t, "P16.1 behind a stream, a tick early", k.tick(n-1), waiting)
		d.expectSent("P16.1 behind a stream, a tick early", "")
		expect(t, "P16.1 behind a stream, in time", k.tick(1), waiting)
		d.expectSent("P16.1 behind a stream, in time", fmt.Sprintf("1.1.1.1 3 %s 12", reverse))
	}
	// It is the Poll that does what the clock says.
	k, m := cutLookup(t, one)
	k.w.Advance(100)
	k.bytes(0, k.framed(m), false)
	k.expectPoll("P16.1 a stream, late, but ahead of the Poll", found("gate", "", 5))
}

// TestStreamAlone: while a stream is heard, nothing else is.
func TestStreamAlone(t *testing.T) {
	k, m := cutLookup(t, two)
	k.tick(1)
	for _, code := range []int{0, 2, 3} {
		k.hear(s1, k.answerTo(0, code, k.record("gate", 5)))
		k.cut(0)
	}
	for _, stream := range []int{1, -1, 2, math.MinInt, math.MaxInt} {
		k.bytes(stream, k.framed(m), false)
		k.bytes(stream, "", true)
	}
	expect(t, "P16.1 a stream alone", k.poll(), waiting)
	k.expectSent("P16.1 a stream alone", asks(1))
	expect(t, "P16.1 a stream alone", fmt.Sprint(len(k.w.Streams())), "1")
	k.bytes(0, k.framed(m), false)
	k.expectPoll("P16.1 a stream alone", found("gate", "", 5))
}

// TestNoStream: ahead of a stream, and behind it, bytes aren't heard.
func TestNoStream(t *testing.T) {
	d := open(t, two)
	k := d.begin(addrOf(s1))
	whole := d.framed(d.answerTo(0, 0, d.record("gate", 5)))
	k.bytes(0, whole, true)
	expect(t, "P16.1 bytes without a stream", k.poll(), waiting)
	d.expectSent("P16.1 bytes without a stream", asks(1))
	k.cut(0)
	k.bytes(0, "", true)
	k.bytes(0, whole, true)
	d.expectSent("P16.1 bytes behind a stream", fmt.Sprintf("2.2.2.2 2 %s 12", reverse))
	k.cut(1)
	k.bytes(0, whole, true)
	expect(t, "P16.1 bytes of a stream that is closed", k.poll(), waiting)
	d.expectSent("P16.1 bytes of a stream that is closed", "")
	k.bytes(1, d.framed(d.answerTo(1, 0, d.record("gate", 6))), false)
	k.expectPoll("P16.1 the next stream", found("gate", "", 6))
}

// TestStreamsOfTwo: each lookup hears its own stream.
func TestStreamsOfTwo(t *testing.T) {
	d := open(t, one)
	first, second := d.begin(addrOf(s1)), d.begin(addrOf(s1))
	second.cut(1)
	first.cut(0)
	one, two := d.framed(d.answerTo(0, 0, d.record("one", 1))), d.framed(d.answerTo(1, 0, d.record("two", 2)))
	for _, k := range []*talk{first, second} {
		k.bytes(0, two, false)
		k.bytes(1, one, false)
	}
	first.expectPoll("P16.1 the first one's stream", found("one", "", 1))
	second.expectPoll("P16.1 the second one's stream", found("two", "", 2))
}

// TestStreamOfLastTry: behind the last try a stream that ends without an answer loses the question, and the next one is asked at once.
func TestStreamOfLastTry(t *testing.T) {
	for why, does := range map[string]func(k *talk){
		"ended":      func(k *talk) { k.bytes(0, "", true) },
		"time over":  func(k *talk) { k.tick(5) },
		"no message": func(k *talk) { k.bytes(0, frame("junk"), false) },
	} {
		d := open(t, one+"options attempts:1")
		k := d.begin(hostOf("a"))
		k.cut(0)
		does(k)
		d.expectSent("P16.1 the last try's stream, "+why, "1.1.1.1 1 a 1, 1.1.1.1 2 a 28")
		expect(t, "P16.1 the last try's stream, "+why, k.tick(4), waiting)
		expect(t, "P16.1 the last try's stream, "+why, k.tick(1), tryAgain)
	}
}

// TestEachCut: each try may be cut, and again: each stream in vain costs a try.
func TestEachCut(t *testing.T) {
	d := open(t, two)
	k := d.begin(addrOf(s1))
	for i := range 3 {
		k.cut(0)
		k.bytes(i, "", true)
		expect(t, "P16.1 cut again", k.poll(), waiting)
	}
	k.cut(0)
	k.bytes(3, "", true)
	k.expectPoll("P16.1 cut four times", tryAgain)
	d.expectSent("P16.1 cut again", asks(1, 2, 1, 2))
	expect(t, "P16.1 cut again", strings.ReplaceAll(d.streams(), fmt.Sprint(writtenBytes), "n"), "1.1.1.1 n true, 1.1.1.1 n true, 1.1.1.1 n true, 1.1.1.1 n true")
}
