package world_test

import (
	"fmt"
	"math"
	"slices"
	"testing"

	"concierge/api"
	"concierge/world"
)

// held tells the files f and g of the disk in one text, and how many raw writes there were.
func held(w *world.World) string {
	return fmt.Sprintf("%q %q %d", w.Load("f"), w.Load("g"), w.Raw())
}

func TestDisk(t *testing.T) {
	w := world.New()
	expect(t, "P1.3 empty", held(w), `"" "" 0`)
	w.Append("f", []byte("ab"))
	expect(t, "P1.3 Append makes the file", held(w), `"ab" "" 1`)
	w.Append("f", []byte("c"))
	expect(t, "P1.3 Append adds at the end", held(w), `"abc" "" 2`)
	w.Replace("g", []byte("xyz"))
	expect(t, "P1.3 Replace makes the file", held(w), `"abc" "xyz" 3`)
	w.Replace("f", []byte("d"))
	expect(t, "P1.3 Replace sets all bytes", held(w), `"d" "xyz" 4`)
	w.Append("f", []byte("e"))
	expect(t, "P1.3 Append behind Replace", held(w), `"de" "xyz" 5`)
	w.Append("f", nil)
	w.Append("h", nil)
	w.Replace("i", nil)
	expect(t, "P1.3 empty writes are raw writes", held(w), `"de" "xyz" 8`)
	w.Replace("g", nil)
	expect(t, "P1.3 Replace by nothing", held(w), `"de" "" 9`)
	w.Sync()
	expect(t, "P1.3 Sync is no raw write", held(w), `"de" "" 9`)
	w.Append("", []byte("no name"))
	expect(t, "P1.3 an empty name", string(w.Load("")), "no name")
}

func TestDiskIsCopied(t *testing.T) {
	for name, write := range map[string]func(w *world.World, body []byte){
		"Append":  func(w *world.World, body []byte) { w.Append("f", body) },
		"Replace": func(w *world.World, body []byte) { w.Replace("f", body) },
	} {
		w := world.New()
		body, room := roomy("hello")
		write(w, body)
		scribble(body[:5:5])
		expect(t, "P1.4 handed in to "+name, held(w), `"hello" "" 1`)
		scribble(w.Load("f"))
		expect(t, "P1.4 loaded behind "+name, held(w), `"hello" "" 1`)
		before := w.Load("f")
		w.Append("f", []byte(" there"))
		expect(t, "P1.4 an answer stays as it was", string(before), "hello")
		_ = append(before, "!!!!!!"...)
		expect(t, "P0.3 spare room answered", held(w), `"hello there" "" 2`)
		expect(t, "P0.3 spare room handed in to "+name, string(room), "spare")
	}
}

// rawWrite is one of a script.
type rawWrite struct {
	replace    bool
	name, body string
}

// script is raw writes of both kinds to two files, some of them empty.
func script(n int) []rawWrite {
	var all []rawWrite
	for i := range n {
		all = append(all, rawWrite{i%7 == 4, [...]string{"f", "g", "f"}[i%3], fmt.Sprint(i, ",")[:i%3]})
	}
	return all
}

// play makes the raw writes on a world.
func play(w *world.World, writes []rawWrite) {
	for _, r := range writes {
		if r.replace {
			w.Replace(r.name, []byte(r.body))
		} else {
			w.Append(r.name, []byte(r.body))
		}
	}
}

// plain tells what a disk with just these raw writes holds, as held does.
func plain(writes []rawWrite) string {
	files := map[string]string{}
	for _, r := range writes {
		if r.replace {
			files[r.name] = ""
		}
		files[r.name] += r.body
	}
	return fmt.Sprintf("%q %q %d", files["f"], files["g"], len(writes))
}

func TestCut(t *testing.T) {
	const all = 40
	writes, later := script(all), script(3)
	for synced := range all + 1 {
		w := world.New()
		play(w, writes[:synced])
		w.Sync()
		play(w, writes[synced:])
		for n := -2; n <= all+2; n++ {
			first := writes[:min(max(n, synced), all)]
			c := w.Cut(n)
			expect(t, fmt.Sprintf("P1.3 Cut(%d), synced %d", n, synced), held(c), plain(first))
			play(c, later)
			expect(t, fmt.Sprintf("P1.3 behind Cut(%d), synced %d", n, synced), held(c), plain(slices.Concat(first, later)))
		}
		expect(t, "P1.3 this one goes on as it was", held(w), plain(writes))
		play(w, later)
		expect(t, "P1.3 this one's later writes", held(w), plain(slices.Concat(writes, later)))
	}
}

func TestCutAtExtremes(t *testing.T) {
	w := world.New()
	expect(t, "P1.3 Cut of nothing", held(w.Cut(0)), `"" "" 0`)
	w.Append("f", []byte("1"))
	w.Sync()
	w.Append("f", []byte("2"))
	w.Sync()
	w.Append("f", []byte("3"))
	w.Replace("g", []byte("4"))
	for n, want := range map[int]string{
		math.MinInt: `"12" "" 2`,
		-1:          `"12" "" 2`,
		0:           `"12" "" 2`,
		1:           `"12" "" 2`,
		2:           `"12" "" 2`,
		3:           `"123" "" 3`,
		4:           `"123" "4" 4`,
		5:           `"123" "4" 4`,
		math.MaxInt: `"123" "4" 4`,
	} {
		expect(t, fmt.Sprintf("P1.3 Cut(%d)", n), held(w.Cut(n)), want)
	}
	w.Sync()
	expect(t, "P1.3 all is synced", held(w.Cut(0)), `"123" "4" 4`)
}

func TestCutOfACut(t *testing.T) {
	w := world.New()
	play(w, script(3))
	w.Sync()
	play(w, script(7))
	c := w.Cut(6)
	expect(t, "P1.3 all of a cut stays", held(c.Cut(0)), held(w.Cut(6)))
	c.Append("f", []byte("new"))
	expect(t, "P1.3 what is written behind a cut can be cut", held(c.Cut(6)), held(w.Cut(6)))
	if got := c.Cut(7).Raw(); got != 7 {
		t.Errorf("P1.3: Raw %d, want 7", got)
	}
	expect(t, "P1.3 the first one isn't synced by it", held(w.Cut(3)), held(w.Cut(0)))
	if got := w.Cut(0).Raw(); got != 3 {
		t.Errorf("P1.3: Raw %d, want 3", got)
	}
}

func TestCutKeepsClockAndFiles(t *testing.T) {
	w := world.New()
	w.Put("/a", []byte("x"))
	w.Put("/b", []byte("y"))
	w.Remove("/b")
	w.Append("f", []byte("1"))
	w.Advance(7)
	w.Send(api.Datagram{To: "p"})
	w.Open("q")
	c := w.Cut(0)
	expect(t, "P1.3 clock", fmt.Sprint(c.Now()), "7")
	expect(t, "P1.3 a file", read(c, "/a"), `"x" 1 true`)
	expect(t, "P1.3 a file that was removed", read(c, "/b"), `"" 3 false`)
	expect(t, "P1.3 no datagrams, no streams", sent(c)+streams(c), "")
	expect(t, "P1.3 streams are counted anew", fmt.Sprint(c.Open("r")), "0")
	c.Put("/c", nil)
	expect(t, "P1.3 stamps go on", read(c, "/c"), `"" 4 true`)
	expect(t, "P1.3 this one's datagrams and streams", sent(w)+streams(w), `"p" false "";"q" "" false;`)
}

func TestCutIsApart(t *testing.T) {
	w := world.New()
	w.Put("/a", []byte("x"))
	w.Append("f", []byte("1"))
	c := w.Cut(1)
	c.Put("/a", []byte("c"))
	c.Remove("/c")
	c.Advance(1)
	c.Append("f", []byte("c"))
	c.Sync()
	expect(t, "P1.4 the first one's file", read(w, "/a"), `"x" 1 true`)
	expect(t, "P1.4 the first one's other file", read(w, "/c"), `"" 0 false`)
	expect(t, "P1.4 the first one's clock and disk", fmt.Sprint(w.Now(), held(w)), `0"1" "" 1`)
	w.Put("/w", nil)
	w.Append("f", []byte("w"))
	w.Replace("f", []byte("W"))
	w.Advance(9)
	expect(t, "P1.4 the cut one's files", read(c, "/a")+read(c, "/w"), `"c" 2 true"" 0 false`)
	expect(t, "P1.4 the cut one's clock and disk", fmt.Sprint(c.Now(), held(c)), `1"1c" "" 2`)
	expect(t, "P1.4 stamps are counted apart", read(w, "/w"), `"" 2 true`)
}
