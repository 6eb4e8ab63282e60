package source_test

import (
	"fmt"
	"math/rand"
	"slices"
	"sort"
	"strings"
	"testing"

	"concierge/api"
	"concierge/filesdb"
	"concierge/source"
	"concierge/world"
)

// named is a source with a name alone; its number tells it from others of that name.
type named struct {
	name   string
	number int
}

func (n *named) Name() string           { return n.name }
func (n *named) Begin(api.Query) api.Op { return nil }

// counted is a source that counts how often it was asked for its name.
type counted struct {
	named
	asked int
}

func (c *counted) Name() string { c.asked++; return c.name }

// thrower is a source whose Name panics.
type thrower struct{ throw func() }

func (s *thrower) Name() string           { s.throw(); return "thrower" }
func (s *thrower) Begin(api.Query) api.Op { return nil }

// value is a source that is no pointer, and can't be compared.
type value []string

func (v value) Name() string           { return v[0] }
func (v value) Begin(api.Query) api.Op { return nil }

func expect(t *testing.T, promise string, got, want any) {
	t.Helper()
	if got, want := fmt.Sprint(got), fmt.Sprint(want); got != want {
		t.Errorf("%s: got %s, want %s", promise, got, want)
	}
}

// names tells what Names answers in one text, quoted.
func names(r *source.Registry) string { return fmt.Sprintf("%q", r.Names()) }

// holds: r has just s by that name.
func holds(t *testing.T, r *source.Registry, name string, s api.Source) {
	t.Helper()
	if got, ok := r.Get(name); !ok || got != s {
		t.Errorf("P12.1: Get(%.20q): %v, %t", name, got, ok)
	}
}

// lacks: r has no source by that name.
func lacks(t *testing.T, r *source.Registry, name string) {
	t.Helper()
	if got, ok := r.Get(name); ok || got != nil {
		t.Errorf("P12.1: Get(%.20q): %v, %t", name, got, ok)
	}
}

func TestPut(t *testing.T) {
	r := source.New()
	expect(t, "P12.1 none", names(r), "[]")
	lacks(t, r, "")
	lacks(t, r, "dns")
	dns, files := &named{"dns", 1}, &named{"files", 2}
	r.Put(files)
	expect(t, "P12.1 one", names(r), `["files"]`)
	lacks(t, r, "dns")
	r.Put(dns)
	expect(t, "P12.1 two", names(r), `["dns" "files"]`)
	holds(t, r, "dns", dns)
	holds(t, r, "files", files)
	for _, near := range []string{"", "DNS", "dn", "dns ", " dns", "dns\x00", "file", "filesfiles", "link"} {
		lacks(t, r, near)
	}
}

func TestPutAgain(t *testing.T) {
	r := source.New()
	first, second, other := &named{"a", 1}, &named{"a", 2}, &named{"b", 3}
	r.Put(first)
	r.Put(other)
	r.Put(second)
	expect(t, "P12.1 another of that name", names(r), `["a" "b"]`)
	holds(t, r, "a", second)
	holds(t, r, "b", other)
	r.Put(second)
	holds(t, r, "a", second)
	r.Put(first)
	expect(t, "P12.1 the first again", names(r), `["a" "b"]`)
	holds(t, r, "a", first)
}

// TestPutNothing: what is no source, or has no name, is not kept, and takes nothing away.
func TestPutNothing(t *testing.T) {
	r := source.New()
	var noName *named
	for _, filled := range []bool{false, true} {
		want, a := "[]", &named{"a", 1}
		if filled {
			r.Put(a)
			want = `["a"]`
		}
		wrong := []api.Source{nil, &named{"", 1}, noName, value{}, value{""}, &thrower{}}
		for _, throw := range throws {
			wrong = append(wrong, &thrower{throw})
		}
		for k, s := range wrong {
			r.Put(s)
			expect(t, fmt.Sprintf("P12.1 Put of the wrong source %d", k), names(r), want)
			lacks(t, r, "")
			lacks(t, r, "thrower")
			if filled {
				holds(t, r, "a", a)
			}
		}
	}
}

// TestPutAnySort: a source is what has a source's methods, a nil pointer too.
func TestPutAnySort(t *testing.T) {
	r := source.New()
	var none *filesdb.DB
	r.Put(value{"v", "1"})
	r.Put(none)
	expect(t, "P12.1 sources of each sort", names(r), `["files" "v"]`)
	holds(t, r, "files", none)
	db := filesdb.New(world.New())
	r.Put(db)
	holds(t, r, "files", db)
	got, ok := r.Get("v")
	expect(t, "P12.1 a list as a source", fmt.Sprint(got, ok), "[v 1] true")
}

// TestNameOnce: a source is kept by the name that it had when it was put.
func TestNameOnce(t *testing.T) {
	r := source.New()
	s := &counted{named: named{"early", 1}}
	r.Put(s)
	s.name = "late"
	expect(t, "P12.1 a name that changed", names(r), `["early"]`)
	holds(t, r, "early", s)
	lacks(t, r, "late")
	expect(t, "P12.1 how often a source was asked", s.asked, 1)
	r.Put(s)
	expect(t, "P12.1 put by both names", names(r), `["early" "late"]`)
	holds(t, r, "early", s)
	holds(t, r, "late", s)
}

func TestNamesInOrder(t *testing.T) {
	r := source.New()
	want := []string{"\x00", "\x00\x00", " ", "!", "-", "0", "10", "2", "A", "B", "Z", "a", "a\x00", "a-", "a0", "aa", "ab", "b", "z", "\x7f", "\x80", "é", "\xff", "\xff\xff"}
	if !sort.StringsAreSorted(want) {
		t.Fatal("the names of the test are not in order")
	}
	for i := range want {
		at := i * 7 % len(want)
		r.Put(&named{want[at], at})
	}
	expect(t, "P12.1 Names", names(r), fmt.Sprintf("%q", want))
	for at, name := range want {
		got, ok := r.Get(name)
		if n, is := got.(*named); !ok || !is || n.number != at {
			t.Errorf("P12.1: Get(%q): %v, %t", name, got, ok)
		}
	}
}

// TestEachByte: any bytes are a name.
func TestEachByte(t *testing.T) {
	r := source.New()
	for b := 255; b >= 0; b-- {
		r.Put(&named{string([]byte{byte(b)}), b})
	}
	got := r.Names()
	expect(t, "P12.1 how many names", len(got), 256)
	for b, name := range got {
		expect(t, "P12.1 a name of one byte", name == string([]byte{byte(b)}), true)
		s, ok := r.Get(name)
		expect(t, "P12.1 its source", fmt.Sprint(s.(*named).number, ok), fmt.Sprint(b, true))
	}
}

func TestManyAndLong(t *testing.T) {
	r := source.New()
	var want []string
	for i := range 5000 {
		name := fmt.Sprint("s", i*7919%5000)
		want = append(want, name)
		r.Put(&named{name, i})
	}
	slices.Sort(want)
	expect(t, "P12.1 many names", slices.Equal(r.Names(), want), true)
	long := strings.Repeat("x", 1<<20)
	s := &named{long, -1}
	r.Put(s)
	holds(t, r, long, s)
	lacks(t, r, long+"x")
	lacks(t, r, long[1:])
}

// plain is a second reading of a registry: its sources, in the order in which they came.
type plain []*named

func (p *plain) put(n *named) {
	if n == nil || n.name == "" {
		return
	}
	*p = append(slices.DeleteFunc(*p, func(other *named) bool { return other.name == n.name }), n)
}

func (p plain) get(name string) *named {
	for _, n := range p {
		if n.name == name {
			return n
		}
	}
	return nil
}

func (p plain) names() string {
	var all []string
	for _, n := range p {
		all = append(all, n.name)
	}
	sort.Strings(all)
	return fmt.Sprintf("%q", all)
}

// TestScripts holds registries that were told many things against the second reading.
func TestScripts(t *testing.T) {
	random := rand.New(rand.NewSource(12))
	words := []string{"", "a", "b", "ab", "B", "ba", "\xff", "a\x00"}
	for range 300 {
		r, p := source.New(), plain{}
		for i := range random.Intn(40) {
			n := &named{words[random.Intn(len(words))], i}
			r.Put(n)
			p.put(n)
			expect(t, "P12.1 Names in a script", names(r), p.names())
			for _, word := range words {
				if want := p.get(word); want != nil {
					holds(t, r, word, want)
				} else {
					lacks(t, r, word)
				}
			}
		}
	}
}

// TestNoRegistry: a nil registry keeps nothing; a zero one is as a new one.
func TestNoRegistry(t *testing.T) {
	var none *source.Registry
	for _, s := range []api.Source{nil, &named{"a", 1}, &named{"", 1}, &thrower{throws[0]}} {
		none.Put(s)
		expect(t, "P0.1 Names of a nil registry", names(none), "[]")
		lacks(t, none, "a")
		lacks(t, none, "")
	}
	zero := &source.Registry{}
	expect(t, "P0.1 Names of a zero registry", names(zero), "[]")
	lacks(t, zero, "a")
	a := &named{"a", 1}
	zero.Put(nil)
	zero.Put(a)
	holds(t, zero, "a", a)
}

// TestRegistries: what one is told is nothing to another, and asking one changes nothing.
func TestRegistries(t *testing.T) {
	first, second := source.New(), source.New()
	a, b := &named{"a", 1}, &named{"a", 2}
	first.Put(a)
	second.Put(b)
	second.Put(&named{"c", 3})
	for range 3 {
		expect(t, "P0.5 the first", names(first), `["a"]`)
		expect(t, "P0.5 the second", names(second), `["a" "c"]`)
		holds(t, first, "a", a)
		holds(t, second, "a", b)
		lacks(t, first, "c")
	}
}

// TestNamesOwnMemory: whoever writes into a list of names, and its spare room, changes no other.
func TestNamesOwnMemory(t *testing.T) {
	r := source.New()
	for n := range 9 {
		earlier := r.Names()
		spoilt := r.Names()
		spoilt = spoilt[:cap(spoilt)]
		for i := range spoilt {
			spoilt[i] = "spoilt"
		}
		want := fmt.Sprintf("%q", []string{"a", "b", "c", "d", "e", "f", "g", "h", "i"}[:n])
		expect(t, "P0.3 Names of before", fmt.Sprintf("%q", earlier), want)
		expect(t, "P0.3 Names again", names(r), want)
		r.Put(&named{string(rune('a' + n)), n})
	}
}
