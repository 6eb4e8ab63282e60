package world_test

import (
	"fmt"
	"math"
	"testing"

	"concierge/api"
	"concierge/world"
)

// sent tells all datagrams in one text.
func sent(w *world.World) string {
	all := ""
	for _, d := range w.Sent() {
		all += fmt.Sprintf("%q %t %q;", d.To, d.Link, d.Body)
	}
	return all
}

// streams tells all streams in one text.
func streams(w *world.World) string {
	all := ""
	for _, s := range w.Streams() {
		all += fmt.Sprintf("%q %q %t;", s.To, s.Written, s.Closed)
	}
	return all
}

func TestDatagrams(t *testing.T) {
	w := world.New()
	expect(t, "P1.2 none was sent", sent(w), "")
	w.Send(api.Datagram{To: "\x7f\x00\x00\x01", Body: []byte("a")})
	w.Send(api.Datagram{Link: true, Body: []byte("b")})
	w.Send(api.Datagram{})
	want := `"\x7f\x00\x00\x01" false "a";"" true "b";"" false "";`
	expect(t, "P1.2 in order, whole", sent(w), want)
	expect(t, "P1.2 Sent takes none away", sent(w), want)
	w.Send(api.Datagram{To: "\x7f\x00\x00\x01", Body: []byte("a")})
	expect(t, "P1.2 an equal one is noted too", sent(w), want+`"\x7f\x00\x00\x01" false "a";`)
	expect(t, "P1.2 datagrams are no streams", streams(w), "")
}

func TestDatagramsAreCopied(t *testing.T) {
	w := world.New()
	body, room := roomy("hello")
	w.Send(api.Datagram{To: "x", Body: body})
	scribble(body[:5:5])
	const want = `"x" false "hello";`
	expect(t, "P1.4 a body that was sent", sent(w), want)
	got := w.Sent()
	scribble(got[0].Body)
	got[0].To = "y"
	_ = append(got, api.Datagram{To: "z"})
	expect(t, "P1.4 a list that was answered", sent(w), want)
	one, two := w.Sent(), w.Sent()
	scribble(one[0].Body)
	expect(t, "P0.3 two answers", string(two[0].Body), "hello")
	expect(t, "P0.3 spare room handed in", string(room), "spare")
}

func TestListsOfOneAnswerAreApart(t *testing.T) {
	w := world.New()
	for _, s := range []string{"first", "second"} {
		w.Send(api.Datagram{Body: []byte(s)})
		w.Write(w.Open(""), []byte(s))
	}
	d := w.Sent()
	scribble(d[0].Body)
	expect(t, "P0.3 Sent", string(d[1].Body), "second")
	s := w.Streams()
	scribble(s[0].Written)
	expect(t, "P0.3 Streams", string(s[1].Written), "second")
}

func TestStreams(t *testing.T) {
	w := world.New()
	expect(t, "P1.2 none was opened", streams(w), "")
	for want, to := range []string{"p", "q", "p", ""} {
		if got := w.Open(to); got != want {
			t.Errorf("P1.2: Open: %d, want %d", got, want)
		}
	}
	expect(t, "P1.2 opened", streams(w), `"p" "" false;"q" "" false;"p" "" false;"" "" false;`)
	w.Write(1, []byte("ab"))
	w.Write(0, []byte("x"))
	w.Write(1, nil)
	w.Write(1, []byte("c"))
	expect(t, "P1.2 written", streams(w), `"p" "x" false;"q" "abc" false;"p" "" false;"" "" false;`)
	w.Close(1)
	w.Close(2)
	w.Write(1, []byte("d"))
	w.Write(2, []byte("d"))
	w.Close(1)
	w.Write(0, []byte("y"))
	expect(t, "P1.2 closed", streams(w), `"p" "xy" false;"q" "abc" true;"p" "" true;"" "" false;`)
	if got := w.Open("r"); got != 4 {
		t.Errorf("P1.2: closed streams count: Open: %d, want 4", got)
	}
	expect(t, "P1.2 streams are no datagrams", sent(w), "")
}

func TestStreamsThatAreNone(t *testing.T) {
	w := world.New()
	for _, n := range []int{math.MinInt, -1, 0, 1, math.MaxInt} {
		w.Write(n, []byte("x"))
		w.Close(n)
	}
	expect(t, "P1.2 no stream at all", streams(w), "")
	w.Open("p")
	for _, n := range []int{math.MinInt, -1, 1, 2, math.MaxInt} {
		w.Write(n, []byte("x"))
		w.Close(n)
	}
	expect(t, "P1.2 other numbers", streams(w), `"p" "" false;`)
}

func TestStreamsAreCopied(t *testing.T) {
	w := world.New()
	w.Open("p")
	body, room := roomy("hello")
	w.Write(0, body)
	scribble(body[:5:5])
	const want = `"p" "hello" false;`
	expect(t, "P1.4 bytes that were written", streams(w), want)
	got := w.Streams()
	scribble(got[0].Written)
	got[0].To, got[0].Closed = "y", true
	_ = append(got, api.Stream{To: "z"})
	expect(t, "P1.4 a list that was answered", streams(w), want)
	before := w.Streams()
	w.Write(0, []byte(" there"))
	expect(t, "P1.4 an answer stays as it was", string(before[0].Written), "hello")
	_ = append(before[0].Written, "!!!!!!"...)
	expect(t, "P0.3 spare room answered", streams(w), `"p" "hello there" false;`)
	expect(t, "P0.3 spare room handed in", string(room), "spare")
}
