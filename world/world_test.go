package world_test

import (
	"fmt"
	"math"
	"testing"

	"concierge/api"
	"concierge/world"
)

// read tells what Read answers in one text.
func read(w *world.World, path string) string {
	body, stamp, there := w.Read(path)
	return fmt.Sprintf("%q %d %t", body, stamp, there)
}

func expect(t *testing.T, promise, got, want string) {
	t.Helper()
	if got != want {
		t.Errorf("%s: got %s, want %s", promise, got, want)
	}
}

// scribble writes over a list's elements and its spare room.
func scribble(b []byte) {
	b = b[:cap(b)]
	for i := range b {
		b[i] = '!'
	}
}

// roomy is a list with spare room behind it, and a look at the room.
func roomy(s string) (list, room []byte) {
	all := []byte(s + "spare")
	return all[:len(s)], all[len(s):]
}

func TestClock(t *testing.T) {
	const top = 1 << 60
	for _, c := range []struct {
		steps []int64
		want  int64
	}{
		{nil, 0},
		{[]int64{0}, 0},
		{[]int64{1}, 1},
		{[]int64{5, 7}, 12},
		{[]int64{5, 0, -1, -3, math.MinInt64}, 5},
		{[]int64{top}, top},
		{[]int64{top - 1, 1}, top},
		{[]int64{top - 1, 2}, top},
		{[]int64{top + 1}, top},
		{[]int64{top, 1, 5}, top},
		{[]int64{math.MaxInt64}, top},
		{[]int64{1, math.MaxInt64}, top},
		{[]int64{top, math.MaxInt64, -9}, top},
	} {
		w := world.New()
		for _, n := range c.steps {
			w.Advance(n)
		}
		if w.Now() != c.want {
			t.Errorf("P1.1, P0.6: Advance by %d: Now %d, want %d", c.steps, w.Now(), c.want)
		}
	}
}

func TestFiles(t *testing.T) {
	w := world.New()
	expect(t, "P1.1 never put", read(w, "/a"), `"" 0 false`)
	w.Put("/a", []byte("one"))
	expect(t, "P1.1 put", read(w, "/a"), `"one" 1 true`)
	w.Put("/b", []byte("two"))
	expect(t, "P1.1 stamps are of all paths together", read(w, "/b"), `"two" 2 true`)
	expect(t, "P1.1 another path's change", read(w, "/a"), `"one" 1 true`)
	w.Put("/a", []byte("one"))
	expect(t, "P1.1 the same bytes put again", read(w, "/a"), `"one" 3 true`)
	w.Put("/a", nil)
	expect(t, "P1.1 an empty file is there", read(w, "/a"), `"" 4 true`)
	w.Remove("/b")
	expect(t, "P1.1 removed", read(w, "/b"), `"" 5 false`)
	w.Remove("/b")
	expect(t, "P1.1 removed again", read(w, "/b"), `"" 6 false`)
	w.Remove("/c")
	expect(t, "P1.1 removed, never there", read(w, "/c"), `"" 7 false`)
	w.Put("/b", []byte("\x00\xff"))
	expect(t, "P1.1 put behind a removal", read(w, "/b"), `"\x00\xff" 8 true`)
	w.Put("", []byte("no name"))
	expect(t, "P1.1 an empty path", read(w, ""), `"no name" 9 true`)
	expect(t, "P1.1 paths are taken as they are", read(w, "/A"), `"" 0 false`)
	expect(t, "P1.1 the rest as it was", read(w, "/a"), `"" 4 true`)
}

func TestFilesHaveNoPartInTheRest(t *testing.T) {
	w := world.New()
	w.Put("f", []byte("put"))
	expect(t, "P1.3 the disk's files are its own", string(w.Load("f")), "")
	w.Append("g", []byte("written"))
	expect(t, "P1.3 files are not the disk's", read(w, "g"), `"" 0 false`)
	w.Remove("g")
	expect(t, "P1.3 Remove", string(w.Load("g")), "written")
	if w.Raw() != 1 || w.Now() != 0 {
		t.Errorf("P1.3: Raw %d, Now %d", w.Raw(), w.Now())
	}
}

func TestNilAndEmptyAreTheSame(t *testing.T) {
	play := func(none []byte) string {
		w := world.New()
		w.Put("/a", none)
		w.Send(api.Datagram{To: "x", Body: none})
		w.Write(w.Open("p"), none)
		w.Append("f", none)
		w.Replace("g", none)
		return fmt.Sprint(read(w, "/a"), len(w.Sent()[0].Body), len(w.Streams()[0].Written), len(w.Load("f")), len(w.Load("g")), w.Raw())
	}
	expect(t, "P0.4", play(nil), play([]byte{}))
}

func TestWorldsAreApart(t *testing.T) {
	play := func(w *world.World) string {
		w.Advance(3)
		w.Put("/a", []byte("x"))
		w.Send(api.Datagram{To: "y"})
		w.Append("f", []byte("z"))
		return fmt.Sprint(w.Now(), read(w, "/a"), w.Sent(), w.Open("q"), w.Streams(), string(w.Load("f")), w.Raw())
	}
	first := play(world.New())
	expect(t, "P0.5 a second world", play(world.New()), first)
	expect(t, "P0.1 a zero World", play(new(world.World)), first)
}

func TestFilesAreCopied(t *testing.T) {
	w := world.New()
	body, room := roomy("hello")
	w.Put("/a", body)
	scribble(body[:5:5])
	expect(t, "P1.4 a body that was put", read(w, "/a"), `"hello" 1 true`)
	got, _, _ := w.Read("/a")
	scribble(got)
	expect(t, "P1.4 a body that was read", read(w, "/a"), `"hello" 1 true`)
	one, _, _ := w.Read("/a")
	two, _, _ := w.Read("/a")
	scribble(one)
	expect(t, "P0.3 two answers", string(two), "hello")
	expect(t, "P0.3 spare room handed in", string(room), "spare")
}

func TestNilWorld(t *testing.T) {
	var w *world.World
	w.Advance(1)
	w.Put("/a", []byte("x"))
	w.Remove("/a")
	w.Send(api.Datagram{To: "x"})
	w.Write(0, []byte("x"))
	w.Close(0)
	w.Append("f", []byte("x"))
	w.Replace("f", []byte("x"))
	w.Sync()
	if w.Now() != 0 || w.Raw() != 0 || w.Open("x") != 0 {
		t.Errorf("P1.4: Now %d, Raw %d, Open %d", w.Now(), w.Raw(), w.Open("x"))
	}
	if len(w.Sent()) != 0 || len(w.Streams()) != 0 || len(w.Load("f")) != 0 {
		t.Errorf("P1.4: Sent %v, Streams %v, Load %q", w.Sent(), w.Streams(), w.Load("f"))
	}
	expect(t, "P1.4 Read", read(w, "/a"), `"" 0 false`)
	for _, n := range []int{math.MinInt, -1, 0, 1, math.MaxInt} {
		if w.Cut(n) != nil {
			t.Errorf("P1.4: Cut(%d) is a world", n)
		}
	}
}

func TestZeroWorld(t *testing.T) {
	for name, call := range map[string]func(w *world.World){
		"Advance": func(w *world.World) { w.Advance(1) },
		"Put":     func(w *world.World) { w.Put("/a", nil) },
		"Remove":  func(w *world.World) { w.Remove("/a") },
		"Read":    func(w *world.World) { w.Read("/a") },
		"Send":    func(w *world.World) { w.Send(api.Datagram{}) },
		"Open":    func(w *world.World) { w.Open("") },
		"Write":   func(w *world.World) { w.Write(0, nil) },
		"Close":   func(w *world.World) { w.Close(0) },
		"Append":  func(w *world.World) { w.Append("f", nil) },
		"Replace": func(w *world.World) { w.Replace("f", nil) },
		"Load":    func(w *world.World) { w.Load("f") },
		"Sync":    func(w *world.World) { w.Sync() },
		"Cut":     func(w *world.World) { w.Cut(0).Append("f", nil); w.Cut(1).Put("/a", nil) },
	} {
		t.Run(name, func(t *testing.T) { call(new(world.World)) })
	}
}
