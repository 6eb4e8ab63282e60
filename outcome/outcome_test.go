package outcome_test

import (
	"errors"
	"fmt"
	"math"
	"slices"
	"strings"
	"testing"

	"concierge/api"
	"concierge/outcome"
)

// inOrder: the codes that Of tells apart, as P9.1 names them.
var inOrder = []api.Code{
	api.NotFound, api.TryAgain, api.Busy, api.BadQuery, api.BadText,
	api.BadName, api.BadMessage, api.BadFrame, api.BadRecord, api.Full,
}

// codes: all codes, and numbers that are none.
var codes = append([]api.Code{api.Found, api.Unavail, 12, 13, -1, 255, 257, 1<<32 + 1, math.MinInt, math.MaxInt}, inOrder...)

// meant is what Of is to tell of an error that is just that code.
func meant(c api.Code) api.Code {
	if slices.Contains(inOrder, c) {
		return c
	}
	return api.Unavail
}

// tell tells all that is told of an error in one text.
func tell(err error) string {
	line, col, ok := outcome.Place(err)
	return fmt.Sprintf("%d %q %d %d %t", outcome.Of(err), outcome.Source(err), line, col, ok)
}

func expect(t *testing.T, promise, got, want string) {
	t.Helper()
	if got != want {
		t.Errorf("%s: got %s, want %s", promise, got, want)
	}
}

// of and at are errors of a source and of a place.
func of(source string, err error) error { return &api.SourceError{Source: source, Err: err} }
func at(line, col int, err error) error { return &api.TextError{Line: line, Col: col, Err: err} }

// plain is an error that is nothing else.
var plain = errors.New("plain")

// list is an error that can't be compared, of several.
type list []error

func (l list) Error() string   { return "list" }
func (l list) Unwrap() []error { return l }

// says is an error that says by itself what it is, and as what it may be taken.
type says struct {
	codes  []api.Code
	source *api.SourceError
	text   *api.TextError
}

func (s says) Error() string { return "says" }

func (s says) Is(target error) bool {
	c, ok := target.(api.Code)
	return ok && slices.Contains(s.codes, c)
}

func (s says) As(target any) bool {
	switch to := target.(type) {
	case **api.SourceError:
		*to = s.source
		return s.source != nil
	case **api.TextError:
		*to = s.text
		return s.text != nil
	}
	return false
}

// broken is an error each of whose methods panics.
type broken struct{}

func (broken) Error() string   { panic("Error") }
func (broken) Is(error) bool   { panic("Is") }
func (broken) As(any) bool     { panic("As") }
func (broken) Unwrap() []error { panic("Unwrap") }

// half gives what it was asked for, and panics then.
type half struct{}

func (half) Error() string { return "half" }

func (half) Is(target error) bool { return target == api.Busy || target == api.Full || divide(0) }

func (half) As(target any) bool {
	switch to := target.(type) {
	case **api.SourceError:
		*to = &api.SourceError{Source: "half"}
	case **api.TextError:
		*to = &api.TextError{Line: 1, Col: 1}
	}
	return divide(0)
}

func divide(n int) bool { return 1/n > 0 }

// embeds is no *api.SourceError, nor a *api.TextError, but has one's methods.
type embeds struct{ *api.SourceError }
type embedsText struct{ *api.TextError }

func TestWrap(t *testing.T) {
	if err := outcome.Wrap("dns", nil); err != nil {
		t.Errorf("P9.1: Wrap of nil: %v", err)
	}
	if err := outcome.Wrap("", nil); err != nil {
		t.Errorf("P9.1: Wrap of nil, of no source: %v", err)
	}
	var none *api.SourceError
	for _, source := range []string{"", "dns", "files", "Dns ", "\x00\xff", strings.Repeat("s", 1<<20)} {
		for _, within := range []error{api.Found, api.NotFound, api.Unavail, plain, of("in", plain), at(1, 2, api.BadText), none, embeds{}} {
			err := outcome.Wrap(source, within)
			e, ok := err.(*api.SourceError)
			if !ok || e == nil || e.Source != source || e.Err != within {
				t.Errorf("P9.1: Wrap(%.20q, %T): %T", source, within, err)
			}
		}
	}
	e, ok := outcome.Wrap("a", list{api.Full}).(*api.SourceError)
	if l, is := e.Err.(list); !ok || !is || len(l) != 1 || l[0] != api.Full {
		t.Errorf("P9.1: Wrap of a list: %v", e)
	}
}

func TestWrapIsReadByAll(t *testing.T) {
	err := fmt.Errorf("a: %w", outcome.Wrap("dns", at(3, 4, fmt.Errorf("b: %w", api.BadText))))
	expect(t, "P9.1 wrapped", tell(err), `5 "dns" 3 4 true`)
	err = outcome.Wrap("outer", fmt.Errorf("c: %w", err))
	expect(t, "P9.1 wrapped again", tell(err), `5 "outer" 3 4 true`)
	expect(t, "P9.1 wrapped for no source", tell(outcome.Wrap("", err)), `5 "" 3 4 true`)
	expect(t, "P9.1 a source's error", tell(outcome.Wrap("files", api.NotFound)), `1 "files" 0 0 false`)
	expect(t, "P9.1 a source's other error", tell(outcome.Wrap("files", plain)), `2 "files" 0 0 false`)
}

// TestOfCodes: each code, bare and wrapped in each way.
func TestOfCodes(t *testing.T) {
	if got := outcome.Of(nil); got != api.Found {
		t.Errorf("P9.1: Of(nil): %d", got)
	}
	for _, c := range codes {
		bare := c
		for why, err := range map[string]error{
			"bare":        c,
			"a source's":  of("x", c),
			"a text's":    at(1, 1, c),
			"wrapped":     fmt.Errorf("x: %w", c),
			"deep":        fmt.Errorf("x: %w", of("y", fmt.Errorf("z: %w", at(0, 0, c)))),
			"joined":      errors.Join(c),
			"last of all": errors.Join(plain, of("x", plain), fmt.Errorf("%w %w", plain, c)),
			"in a list":   list{list{}, nil, list{plain, c}},
			"said":        says{codes: []api.Code{c}},
			"embedded":    embeds{&api.SourceError{Err: c}},
		} {
			if got := outcome.Of(err); got != meant(c) {
				t.Errorf("P9.1: %d, %s: Of: %d, want %d", c, why, got, meant(c))
			}
		}
		for why, err := range map[string]error{
			"told alone":   errors.New(c.Error()),
			"not wrapped":  fmt.Errorf("%v", c),
			"a pointer to": &bare,
		} {
			if got := outcome.Of(err); got != api.Unavail {
				t.Errorf("P9.1: %d, %s: Of: %d", c, why, got)
			}
		}
	}
}

// TestOfOrder: of several codes the first is told, wherever they stand.
func TestOfOrder(t *testing.T) {
	for i, first := range inOrder {
		for _, second := range append(slices.Clone(inOrder[i:]), api.Found, api.Unavail, 12) {
			for why, err := range map[string]error{
				"ahead":      errors.Join(first, second),
				"behind":     errors.Join(second, first),
				"deep":       list{second, of("a", at(1, 2, list{plain, of("b", first)}))},
				"both deep":  list{of("a", at(1, 2, second)), fmt.Errorf("x: %w", fmt.Errorf("y: %w", first))},
				"above":      &both{first, second},
				"below":      &both{second, first},
				"said":       says{codes: []api.Code{second, first}},
				"said above": errors.Join(says{codes: []api.Code{second}}, first),
			} {
				if got := outcome.Of(err); got != first {
					t.Errorf("P9.1: %d and %d, %s: Of: %d", first, second, why, got)
				}
			}
		}
	}
	all := list{}
	for _, c := range slices.Backward(codes) {
		all = append(all, c)
	}
	if got := outcome.Of(all); got != api.NotFound {
		t.Errorf("P9.1: Of all codes: %d", got)
	}
}

// both is an error that says a code of itself, and wraps another.
type both struct{ own, below api.Code }

func (b *both) Error() string        { return "both" }
func (b *both) Is(target error) bool { return target == b.own }
func (b *both) Unwrap() error        { return b.below }

func TestSource(t *testing.T) {
	for _, c := range []struct {
		why  string
		err  error
		want string
	}{
		{"nil", nil, ""},
		{"a code", api.Full, ""},
		{"no source", at(1, 2, fmt.Errorf("x: %w", plain)), ""},
		{"itself", of("dns", plain), "dns"},
		{"of nothing", of("dns", nil), "dns"},
		{"any bytes", of("\x00 \xff", plain), "\x00 \xff"},
		{"wrapped", fmt.Errorf("x: %w", at(1, 2, of("dns", plain))), "dns"},
		{"the outer of two", of("outer", of("inner", plain)), "outer"},
		{"the outer, deep", at(1, 2, of("outer", at(1, 2, of("inner", plain)))), "outer"},
		{"the first has none", of("", of("inner", plain)), ""},
		{"the first of several", errors.Join(plain, of("a", plain), of("b", plain)), "a"},
		{"one behind the other", list{at(1, 2, of("deep", of("deeper", plain))), of("b", plain)}, "deep"},
		{"behind what has none", list{list{plain, list{}}, nil, of("b", plain)}, "b"},
		{"said", says{source: &api.SourceError{Source: "said"}}, "said"},
		{"ahead of what is said", of("a", says{source: &api.SourceError{Source: "said"}}), "a"},
		{"said ahead of another", list{says{source: &api.SourceError{Source: "said"}}, of("b", plain)}, "said"},
		{"said of a place alone", list{says{text: &api.TextError{Line: 1}}, of("b", plain)}, "b"},
		{"embedded", embeds{&api.SourceError{Source: "a", Err: of("b", plain)}}, "b"},
		{"embedded alone", embeds{&api.SourceError{Source: "a", Err: plain}}, ""},
		{"long", of(strings.Repeat("s", 1<<20), plain), strings.Repeat("s", 1<<20)},
	} {
		if got := outcome.Source(c.err); got != c.want {
			t.Errorf("P9.1: %s: Source: %.60q, want %.60q", c.why, got, c.want)
		}
	}
}

func TestPlace(t *testing.T) {
	for _, c := range []struct {
		why  string
		err  error
		want string
	}{
		{"nil", nil, "0 0 false"},
		{"a code", api.BadText, "0 0 false"},
		{"no place", of("x", fmt.Errorf("x: %w", plain)), "0 0 false"},
		{"itself", at(3, 4, api.BadText), "3 4 true"},
		{"of nothing", at(3, 4, nil), "3 4 true"},
		{"zeros", at(0, 0, plain), "0 0 true"},
		{"a line alone", at(7, 0, plain), "7 0 true"},
		{"a column alone", at(0, 7, plain), "0 7 true"},
		{"below zero", at(-1, math.MinInt, plain), "-1 -9223372036854775808 true"},
		{"huge", at(math.MaxInt, 1<<40, plain), "9223372036854775807 1099511627776 true"},
		{"wrapped", fmt.Errorf("x: %w", of("x", at(3, 4, plain))), "3 4 true"},
		{"the outer of two", at(1, 2, at(3, 4, plain)), "1 2 true"},
		{"the outer, deep", of("x", at(1, 2, of("x", at(3, 4, plain)))), "1 2 true"},
		{"the first is zero", at(0, 0, at(3, 4, plain)), "0 0 true"},
		{"the first of several", errors.Join(plain, at(1, 2, plain), at(3, 4, plain)), "1 2 true"},
		{"one behind the other", list{of("x", at(5, 6, at(7, 8, plain))), at(1, 2, plain)}, "5 6 true"},
		{"behind what has none", list{list{plain, list{}}, nil, at(1, 2, plain)}, "1 2 true"},
		{"said", says{text: &api.TextError{Line: 9, Col: 8}}, "9 8 true"},
		{"said of a source alone", list{says{source: &api.SourceError{Source: "x"}}, at(1, 2, plain)}, "1 2 true"},
		{"embedded", embedsText{&api.TextError{Line: 1, Col: 2, Err: at(3, 4, plain)}}, "3 4 true"},
		{"embedded alone", embedsText{&api.TextError{Line: 1, Col: 2, Err: plain}}, "0 0 false"},
	} {
		line, col, ok := outcome.Place(c.err)
		expect(t, "P9.1 "+c.why, fmt.Sprint(line, col, ok), c.want)
	}
}

// TestWrongErrors: nil pointers as errors, and errors whose own methods panic, are told of all the same.
func TestWrongErrors(t *testing.T) {
	var noSource *api.SourceError
	var noText *api.TextError
	var noBoth *both
	var noCode *api.Code
	for _, c := range []struct {
		why  string
		err  error
		want string
	}{
		{"a nil *SourceError", noSource, `2 "" 0 0 false`},
		{"a nil *TextError", noText, `2 "" 0 0 false`},
		{"a nil pointer to another", noBoth, `2 "" 0 0 false`},
		{"a nil pointer to a code", noCode, `2 "" 0 0 false`},
		{"a nil list", list(nil), `2 "" 0 0 false`},
		{"a list of nil", list{nil, nil}, `2 "" 0 0 false`},
		{"a source's of a nil *SourceError", of("x", noSource), `2 "x" 0 0 false`},
		{"a text's of a nil *TextError", at(1, 2, noText), `2 "" 1 2 true`},
		{"a nil *SourceError ahead", list{noSource, of("x", plain)}, `2 "" 0 0 false`},
		{"a nil *TextError ahead", list{noText, at(1, 2, plain)}, `2 "" 0 0 false`},
		{"a nil *TextError behind", list{api.Busy, of("x", at(1, 2, plain)), noText}, `4 "x" 1 2 true`},
		{"a code of nothing ahead", list{api.Busy, noSource}, `4 "" 0 0 false`},
		{"a nil one embedded", embeds{}, `2 "" 0 0 false`},
		{"broken", broken{}, `2 "" 0 0 false`},
		{"a source's, broken", of("x", broken{}), `2 "x" 0 0 false`},
		{"a text's, broken", at(1, 2, broken{}), `2 "" 1 2 true`},
		{"broken behind all", list{api.Full, of("x", plain), at(1, 2, plain), broken{}}, `11 "x" 1 2 true`},
		{"half broken", half{}, `4 "" 0 0 false`},
		{"half broken, wrapped", of("x", at(1, 2, half{})), `4 "x" 1 2 true`},
	} {
		for range 2 {
			expect(t, "P0.1 "+c.why, tell(c.err), c.want)
		}
		if e, ok := outcome.Wrap("w", c.err).(*api.SourceError); !ok || e.Source != "w" || e.Err == nil {
			t.Errorf("P0.1 %s: Wrap: %T", c.why, e)
		}
	}
}

// TestLongErrors: errors that wrap very many are told of.
func TestLongErrors(t *testing.T) {
	const many = 1000000
	chain := error(api.Full)
	chain = of("innermost", at(5, 6, chain))
	for range many {
		chain = fmt.Errorf("%w", chain)
	}
	expect(t, "P0.1 a long chain", tell(chain), `11 "innermost" 5 6 true`)
	wide := make(list, many)
	for i := range wide {
		wide[i] = plain
	}
	expect(t, "P0.1 a long list", tell(wide), `2 "" 0 0 false`)
	expect(t, "P0.1 a longer list", tell(append(wide, chain)), `11 "innermost" 5 6 true`)
	deep := error(of("deep", api.BadRecord))
	for range many / 10 {
		deep = list{plain, deep}
	}
	expect(t, "P0.1 a deep list", tell(deep), `10 "deep" 0 0 false`)
}

func TestGuardOfWhatComesBack(t *testing.T) {
	times := 0
	for k, call := range []func(){
		func() { times++ },
		func() { times++; _ = outcome.Of(broken{}) },
		func() {
			times++
			defer func() { _ = recover() }()
			panic("caught within")
		},
		func() {
			times++
			if err := outcome.Guard("inner", func() { panic("caught by an inner one") }); outcome.Source(err) != "inner" {
				t.Errorf("P9.2: an inner one: %v", err)
			}
		},
	} {
		if err := outcome.Guard("dns", call); err != nil {
			t.Errorf("P9.2, %d: %v", k, err)
		}
		if times != k+1 {
			t.Errorf("P9.2, %d: called until then: %d", k, times)
		}
	}
}

// panics: calls that don't come back, each by another panic.
func panics() map[string]func() {
	return map[string]func(){
		"a text":                 func() { panic("x") },
		"nil":                    func() { panic(nil) },
		"a nil error":            func() { panic(error(nil)) },
		"a number":               func() { panic(7) },
		"a code":                 func() { panic(api.NotFound) },
		"no error":               func() { panic(api.Found) },
		"a source's error":       func() { panic(of("other", api.Full)) },
		"a text's error":         func() { panic(at(1, 2, api.BadText)) },
		"a broken error":         func() { panic(broken{}) },
		"a list":                 func() { panic(list{api.NotFound}) },
		"a nil *SourceError":     func() { panic((*api.SourceError)(nil)) },
		"a write to a nil map":   func() { var m map[int]int; m[1] = 1 },
		"an index":               func() { _ = codes[len(codes)*2:][0] },
		"a nil pointer":          func() { _ = (*api.SourceError)(nil).Unwrap() },
		"a nil function":         func() { var f func(); f() },
		"a division":             func() { divide(0) },
		"an assertion":           func() { _ = any(plain).(api.Code) },
		"a closed channel":       func() { c := make(chan int); close(c); close(c) },
		"a key that is a list":   func() { m := map[any]int{}; m[list{}] = 1 },
		"a panic again":          func() { defer func() { panic("again") }(); panic("first") },
		"a panic that comes up":  func() { defer func() { panic(recover()) }(); panic("first") },
		"a panic of what is put": func() { defer func() { panic("x") }() },
		"a panic below another":  func() { _ = outcome.Guard("inner", func() { panic(1) }); panic(2) },
	}
}

func TestGuardOfPanics(t *testing.T) {
	for why, call := range panics() {
		for _, source := range []string{"dns", "", "\x00\xff"} {
			err := outcome.Guard(source, call)
			e, ok := err.(*api.SourceError)
			if !ok || e.Source != source || e.Err != api.Unavail {
				t.Errorf("P9.2 %s: %v", why, err)
			}
			expect(t, "P9.2 "+why, tell(err), fmt.Sprintf(`2 %q 0 0 false`, source))
			for _, c := range codes {
				if errors.Is(err, c) != (c == api.Unavail) {
					t.Errorf("P9.2 %s: it is %d", why, c)
				}
			}
		}
	}
}

func TestGuardOfNil(t *testing.T) {
	for _, source := range []string{"dns", ""} {
		err := outcome.Guard(source, nil)
		e, ok := err.(*api.SourceError)
		if !ok || e.Source != source || e.Err != api.Unavail {
			t.Errorf("P9.2: a nil call: %v", err)
		}
	}
}

// TestGuardStopsAtThePanic: what call did ahead of its panic stays, what stands behind it isn't done.
func TestGuardStopsAtThePanic(t *testing.T) {
	did := ""
	err := outcome.Guard("x", func() {
		defer func() { did += "c" }()
		did += "a"
		divide(0)
		did += "b"
	})
	expect(t, "P9.2 a call that breaks off", did+" "+tell(err), `ac 2 "x" 0 0 false`)
}

// TestOwnMemory: whoever writes into an error that was made changes no other.
func TestOwnMemory(t *testing.T) {
	for range 2 {
		for why, fresh := range map[string]func() error{
			"Wrap":             func() error { return outcome.Wrap("x", api.Unavail) },
			"Guard":            func() error { return outcome.Guard("x", func() { panic("x") }) },
			"Guard of nothing": func() error { return outcome.Guard("x", nil) },
		} {
			first, second := fresh(), fresh()
			first.(*api.SourceError).Source = "y"
			first.(*api.SourceError).Err = api.Full
			expect(t, "P0.3 "+why, tell(second), `2 "x" 0 0 false`)
			expect(t, "P0.3 "+why, tell(fresh()), `2 "x" 0 0 false`)
		}
	}
	within := &api.SourceError{Source: "in", Err: api.Busy}
	err := outcome.Wrap("out", within)
	_ = tell(err)
	if within.Source != "in" || within.Err != api.Busy || outcome.Of(err) != api.Busy {
		t.Errorf("P0.3: what was wrapped: %v", within)
	}
}

// seen is what a second reading makes of an error: the codes in it, and its first source and place.
type seen struct {
	codes  []api.Code
	source *api.SourceError
	text   *api.TextError
}

// walk goes through an error made of codes, sources, texts and lists, from the outside in.
func (s *seen) walk(err error) {
	switch e := err.(type) {
	case api.Code:
		s.codes = append(s.codes, e)
	case *api.SourceError:
		if s.source == nil {
			s.source = e
		}
		s.walk(e.Err)
	case *api.TextError:
		if s.text == nil {
			s.text = e
		}
		s.walk(e.Err)
	case list:
		for _, below := range e {
			s.walk(below)
		}
	}
}

// tell tells what was seen as tell does.
func (s *seen) tell() string {
	code, source, place := api.Unavail, "", "0 0 false"
	for _, c := range slices.Backward(inOrder) {
		if slices.Contains(s.codes, c) {
			code = c
		}
	}
	if s.source != nil {
		source = s.source.Source
	}
	if s.text != nil {
		place = fmt.Sprint(s.text.Line, s.text.Col, true)
	}
	return fmt.Sprintf("%d %q %s", code, source, place)
}

// TestMadeErrors: errors of all shapes, made by a short rule, against the second reading.
func TestMadeErrors(t *testing.T) {
	for seed := range uint32(20000) {
		n := seed
		next := func(most int) int {
			n = n*1664525 + 1013904223
			return int(n>>16) % most
		}
		var grow func(left int) error
		grow = func(left int) error {
			kind := next(6)
			switch {
			case left == 0 || kind == 0:
				return []error{plain, codes[next(len(codes))], nil}[next(3)]
			case kind <= 2:
				return of([]string{"", "a", "b", "c"}[next(4)], grow(left-1))
			case kind == 3:
				return at(next(9)-1, next(9)-1, grow(left-1))
			}
			l := list{}
			for range next(4) {
				l = append(l, grow(left-1))
			}
			return l
		}
		err := list{grow(5)}
		var s seen
		s.walk(err)
		if got, want := tell(err), s.tell(); got != want {
			t.Fatalf("P9.1 %d: got %s, want %s", seed, got, want)
		}
		if got, want := tell(outcome.Wrap("w", err)), fmt.Sprintf("%d %q", outcome.Of(err), "w"); !strings.HasPrefix(got, want) {
			t.Fatalf("P9.1 %d, wrapped: got %s, want %s", seed, got, want)
		}
	}
}
