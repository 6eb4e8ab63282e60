package names_test

import (
	"bytes"
	"encoding/hex"
	"fmt"
	"math"
	"regexp"
	"slices"
	"strconv"
	"strings"
	"testing"

	"concierge/names"
)

// label is the longest one that may be, and longest a name of 253 bytes.
var (
	label   = strings.Repeat("a", 63)
	longest = label + "." + label + "." + label + "." + label[:61]
)

// cleaned tells what Clean answers in one text: the name, with a point behind it if it was rooted, or none.
func cleaned(s string) string {
	name, rooted, ok := names.Clean(s)
	switch {
	case !ok && (name != "" || rooted):
		return fmt.Sprintf("none, but %q, %t", name, rooted)
	case !ok:
		return "none"
	case rooted:
		return name + "."
	}
	return name
}

func TestClean(t *testing.T) {
	for s, want := range map[string]string{
		"a":                              "a",
		"a.":                             "a.",
		"gate.example":                   "gate.example",
		"Gate.EXAMPLE.":                  "gate.example.",
		"ABCXYZ.abcxyz":                  "abcxyz.abcxyz",
		"0.9":                            "0.9",
		"1.2.3.4":                        "1.2.3.4",
		"-":                              "-",
		"_":                              "_",
		"-a-.--.-":                       "-a-.--.-",
		"_tcp._HTTP":                     "_tcp._http",
		"a.b.c.d.e.f.g":                  "a.b.c.d.e.f.g",
		label:                            label,
		label + ".":                      label + ".",
		"x." + label:                     "x." + label,
		label + ".x":                     label + ".x",
		longest:                          longest,
		longest + ".":                    longest + ".",
		strings.ToUpper(longest):         longest,
		strings.Repeat("a.", 126) + "b":  strings.Repeat("a.", 126) + "b",
		strings.Repeat("a.", 127):        strings.Repeat("a.", 127),
		strings.Repeat("a.", 126) + "B.": strings.Repeat("a.", 126) + "b.",
	} {
		if got := cleaned(s); got != want {
			t.Errorf("P4.1: Clean(%q): %s, want %s", s, got, want)
		}
	}
}

func TestCleanNone(t *testing.T) {
	for _, s := range []string{
		"", ".", "..", "...", ".a", ".a.", "a..", "a..b", "a...", "a.b..", "..a",
		" ", "a b", " a", "a ", "a. b", "a\t", "a\n", "a\r", "a.\n", "\x00", "a\x00", "a\x7f",
		"!", "a!", "a.!", "!.a", "a,b", "a:b", "a/b", "*.a", "a@b", "a+b", "a\\.b", "#", "(a)", "[a]", "{a}", "~", "`", "^",
		"\xff", "a\xff", "a.\x80", "\xc3\xa4", "a.\u00c4", "\u212a", "\u017f", "\u0661", "\uff21", "a\u3002b", "\ufffd",
		label + "a", label + "-", label + "a.", "x." + label + "a", label + "a.x", "x." + label + "a.x",
		longest + "a", longest + "a.", longest + "..", longest + ".a", "." + longest[1:], longest[:252] + "!",
		strings.Repeat("a.", 127) + "a", strings.Repeat("a.", 127) + "a.",
	} {
		if got := cleaned(s); got != "none" {
			t.Errorf("P4.1: Clean(%q): %s, want none", s, got)
		}
		if e, ok := names.Encode(s); ok || e != "" {
			t.Errorf("P4.1: Encode(%q): %q, %t", s, e, ok)
		}
		if got := names.Candidates(s, []string{"x"}, 1); len(got) != 0 {
			t.Errorf("P4.2: Candidates(%q): %q", s, got)
		}
	}
}

// letter and isName are the chapter's words as patterns: a second reading, apart from the program's.
const letter = `[A-Za-z0-9_-]`

var isName = regexp.MustCompile(`\A` + letter + `{1,63}(\.` + letter + `{1,63})*\.?\z`)

// plain: what cleaned must tell of s.
func plain(s string) string {
	if !isName.MatchString(s) || len(s) > 254 || len(s) == 254 && s[253] != '.' {
		return "none"
	}
	// A name is ASCII, so letters beyond A to Z don't come in here.
	return strings.ToLower(s)
}

// agree holds Clean, Dots and Encode at s against their second readings.
func agree(t *testing.T, s string) {
	t.Helper()
	want := plain(s)
	if got := cleaned(s); got != want {
		t.Fatalf("P4.1: Clean(%q): %s, want %s", s, got, want)
	}
	if got, points := names.Dots(s), len(strings.Split(s, "."))-1; got != points {
		t.Fatalf("P4.1: Dots(%q): %d, want %d", s, got, points)
	}
	e, ok := names.Encode(s)
	if ok != (want != "none") {
		t.Fatalf("P4.1: Encode(%q): %q, %t", s, e, ok)
	}
	if got := decoded(e); ok && got != strings.TrimSuffix(want, ".") || !ok && e != "" {
		t.Fatalf("P4.1: Encode(%q): %q, which is %q", s, e, got)
	}
}

// decoded reads what Encode wrote: labels behind their lengths, and a 0.
func decoded(e string) string {
	var labels []string
	for e != "" && e[0] != 0 && len(e) > int(e[0]) {
		labels = append(labels, e[1:1+int(e[0])])
		e = e[1+int(e[0]):]
	}
	if e != "\x00" {
		return "nothing"
	}
	return strings.Join(labels, ".")
}

// TestShortTexts: all texts of a few signs, alone and at the ends of texts that nearly are too long.
func TestShortTexts(t *testing.T) {
	const signs = "aZ0-_.! \xff"
	frames := [][2]string{{"", ""}, {label[:61], ""}, {"", label[:61]}, {longest[:251], ""}, {longest[:251], "."}, {"", "." + longest[:250]}}
	var grow func(body string, left int)
	grow = func(body string, left int) {
		for _, f := range frames {
			agree(t, f[0]+body+f[1])
		}
		for i := 0; left > 0 && i < len(signs); i++ {
			grow(body+signs[i:i+1], left-1)
		}
	}
	grow("", 4)
}

// TestBytes lays each byte at each place of names, and between their bytes.
func TestBytes(t *testing.T) {
	for _, s := range []string{"a", "a.b", "Gate-1._x.", label, longest, longest + "."} {
		for at := range len(s) + 1 {
			for b := range 256 {
				agree(t, s[:at]+string([]byte{byte(b)})+s[at:])
				if at < len(s) {
					agree(t, s[:at]+string([]byte{byte(b)})+s[at+1:])
				}
			}
			agree(t, s[:at])
			agree(t, s[at:])
		}
	}
}

// TestRunes: no letter beyond ASCII is one, nor becomes one when it is folded.
func TestRunes(t *testing.T) {
	for r := rune(128); r < 0x20000; r++ {
		if got := cleaned("a" + string(r)); got != "none" {
			t.Fatalf("P4.1: Clean of the letter %x: %s", r, got)
		}
	}
}

func TestLengths(t *testing.T) {
	for n := range 300 {
		agree(t, strings.Repeat("a", n))
		agree(t, strings.Repeat("a", n)+".")
		agree(t, strings.Repeat("x.", 100)+strings.Repeat("a", n))
		agree(t, strings.Repeat("a.", n))
		agree(t, strings.Repeat("a.", n)+"b")
		agree(t, strings.Repeat(label+".", n))
	}
}

// TestHuge: long texts end too.
func TestHuge(t *testing.T) {
	const many = 1 << 20
	for _, piece := range []string{"a", ".", "a.", "..", label + ".", "\x00", "\xff", "A"} {
		s := strings.Repeat(piece, many)
		if got := cleaned(s); got != "none" {
			t.Errorf("P0.1: Clean of many %q: %.40s", piece, got)
		}
		if got, want := names.Dots(s), many*strings.Count(piece, "."); got != want {
			t.Errorf("P4.1: Dots of many %q: %d, want %d", piece, got, want)
		}
		if e, ok := names.Encode(s); ok || e != "" {
			t.Errorf("P0.1: Encode of many %q: %.40q, %t", piece, e, ok)
		}
		if names.Local(s) {
			t.Errorf("P4.1: Local of many %q: true", piece)
		}
		if got := names.Reverse(s); got != "" {
			t.Errorf("P4.3: Reverse of many %q: %.40q", piece, got)
		}
		if got := fmt.Sprint(names.Candidates("a", []string{s, "x"}, 1), names.Candidates(s, []string{"x"}, 1)); got != "[a.x a] []" {
			t.Errorf("P4.2: Candidates of many %q: %.40s", piece, got)
		}
	}
}

func TestDots(t *testing.T) {
	for s, want := range map[string]int{"": 0, "a": 0, ".": 1, "a.": 1, "a.b": 1, "a.b.": 2, "..": 2, "a..b": 2, "! . !": 1, "\xff.\x00.": 2, "\uff0e\u3002": 0, "1.2.3.4": 3} {
		if got := names.Dots(s); got != want {
			t.Errorf("P4.1: Dots(%q): %d, want %d", s, got, want)
		}
	}
}

func TestLocal(t *testing.T) {
	for s, want := range map[string]bool{
		"local":         true,
		"a.local":       true,
		"a.b.local":     true,
		"local.local":   true,
		"-.local":       true,
		"":              false,
		"a":             false,
		"loca":          false,
		"ocal":          false,
		"locala":        false,
		"alocal":        false,
		"-local":        false,
		"a.alocal":      false,
		"local.a":       false,
		"a.local.b":     false,
		"localhost":     false,
		"a.locallocal":  false,
		"a.local-":      false,
		"a.lo.cal":      false,
		longest:         false,
		"gate.example":  false,
		"local.example": false,
	} {
		if got := names.Local(s); got != want {
			t.Errorf("P4.1: Local(%q): %t", s, got)
		}
	}
}

func TestEncode(t *testing.T) {
	for s, want := range map[string]string{
		"a":                       "\x01a\x00",
		"a.":                      "\x01a\x00",
		"Ab.C":                    "\x02ab\x01c\x00",
		"gate.example":            "\x04gate\x07example\x00",
		"GATE.example.":           "\x04gate\x07example\x00",
		"0-_":                     "\x030-_\x00",
		label:                     "?" + label + "\x00",
		longest:                   "?" + label + "?" + label + "?" + label + "=" + label[:61] + "\x00",
		strings.Repeat("a.", 127): strings.Repeat("\x01a", 127) + "\x00",
	} {
		if got, ok := names.Encode(s); got != want || !ok {
			t.Errorf("P4.1: Encode(%q): %q, %t, want %q", s, got, ok, want)
		}
	}
}

func TestCandidates(t *testing.T) {
	six := []string{"1", "2", "3", "4", "5", "6"}
	for _, c := range []struct {
		why    string
		s      string
		search []string
		dots   int
		want   string
	}{
		{"no search", "a", nil, 1, "[a]"},
		{"an empty search", "A.B", []string{}, 1, "[a.b]"},
		{"too few points", "a", []string{"x", "y.z"}, 1, "[a.x a.y.z a]"},
		{"no point asked for", "a", []string{"x"}, 0, "[a a.x]"},
		{"just as many points", "a.b", []string{"x"}, 1, "[a.b a.b.x]"},
		{"one point too few", "a.b", []string{"x"}, 2, "[a.b.x a.b]"},
		{"more points", "a.b.c", []string{"x"}, 1, "[a.b.c a.b.c.x]"},
		{"fewer points than none", "a", []string{"x"}, -1, "[a a.x]"},
		{"least points", "a", []string{"x"}, math.MinInt, "[a a.x]"},
		{"most points", "a.b", []string{"x"}, math.MaxInt, "[a.b.x a.b]"},
		{"points of a search name aren't counted", "a", []string{"x.y.z"}, 1, "[a.x.y.z a]"},
		{"rooted", "A.b.", []string{"x"}, 1, "[a.b]"},
		{"rooted, one label", "a.", []string{"x"}, 0, "[a]"},
		{"rooted, many points", "a.", []string{"x"}, math.MaxInt, "[a]"},
		{"folded", "GATE", []string{"Example.ORG", "X"}, 1, "[gate.example.org gate.x gate]"},
		{"a rooted search name", "a", []string{"x.", "Y.Z."}, 1, "[a.x a.y.z a]"},
		{"in the order of the list", "a", []string{"z", "y", "x"}, 0, "[a a.z a.y a.x]"},
		{"search names that are none", "a", []string{"", ".", "x y", "x", "y..z", "\xff"}, 1, "[a.x a]"},
		{"no search name is one", "a", []string{"", "!"}, 0, "[a]"},
		{"one search name again", "a", []string{"x", "y", "x", "y"}, 1, "[a.x a.y a]"},
		{"again, but for letters and a point", "a", []string{"x.y", "X.Y", "x.y.", "z"}, 0, "[a a.x.y a.z]"},
		{"the name as search name", "a", []string{"a", "a.a"}, 1, "[a.a a.a.a a]"},
		{"six search names", "a", six, 1, "[a.1 a.2 a.3 a.4 a.5 a.6 a]"},
		{"seven search names", "a", append(six[:6:6], "7"), 1, "[a.1 a.2 a.3 a.4 a.5 a.6 a]"},
		{"seven search names, itself first", "a", append(six[:6:6], "7"), 0, "[a a.1 a.2 a.3 a.4 a.5 a.6]"},
		{"six of the list, some of them none", "a", []string{"!", "", "1", "..", "2", "?", "3", "4"}, 1, "[a.1 a.2 a]"},
		{"six of the list, some of them again", "a", []string{"1", "1", "1", "1", "1", "2", "3"}, 1, "[a.1 a.2 a]"},
		{"the seventh alone is one", "a", []string{"", "", "", "", "", "", "x"}, 1, "[a]"},
		{"just the most bytes", "a", []string{longest[:251]}, 1, "[a." + longest[:251] + " a]"},
		{"just the most bytes, rooted", "a", []string{longest[:251] + "."}, 1, "[a." + longest[:251] + " a]"},
		{"a byte too many", "a", []string{longest[:250] + "aa", "x"}, 1, "[a.x a]"},
		{"the longest name", longest, []string{"x", "y"}, 9, "[" + longest + "]"},
		{"the longest name but two", longest[:251], []string{"xy", "z"}, 0, "[" + longest[:251] + " " + longest[:251] + ".z]"},
	} {
		if got := fmt.Sprint(names.Candidates(c.s, c.search, c.dots)); got != c.want {
			t.Errorf("P4.2: %s: Candidates(%q, %q, %d): %s, want %s", c.why, c.s, c.search, c.dots, got, c.want)
		}
	}
}

// TestManySearches: a long list counts no further than its sixth.
func TestManySearches(t *testing.T) {
	search := make([]string, 1<<20)
	for i := range search {
		search[i] = strconv.Itoa(i % 100)
	}
	if got := fmt.Sprint(names.Candidates("a.b", search, 1)); got != "[a.b a.b.0 a.b.1 a.b.2 a.b.3 a.b.4 a.b.5]" {
		t.Errorf("P4.2: Candidates with a long search: %s", got)
	}
}

// TestCandidatesOwnMemory: neither the search nor another answer is touched.
func TestCandidatesOwnMemory(t *testing.T) {
	for _, c := range []struct {
		s    string
		dots int
		want string
	}{{"a", 0, "[a a.x.y a.z]"}, {"a", 1, "[a.x.y a.z a]"}, {"A.", 1, "[a]"}} {
		all := []string{"X.y", "!", "X.y.", "Z", "spare", "room"}
		first := names.Candidates(c.s, all[:4], c.dots)
		second := names.Candidates(c.s, all[:4], c.dots)
		if got := fmt.Sprint(all); got != "[X.y ! X.y. Z spare room]" {
			t.Errorf("P0.3: the search that was handed in, or its room: %s", got)
		}
		clear(first[:cap(first)])
		clear(all)
		if got := fmt.Sprint(second, names.Candidates(c.s, []string{"X.y", "Z"}, c.dots)); got != c.want+" "+c.want {
			t.Errorf("P0.3: Candidates(%q, .., %d) shares memory: %s", c.s, c.dots, got)
		}
	}
}

func TestReverse(t *testing.T) {
	for a, want := range map[string]string{
		"\x01\x02\x03\x04":                  "4.3.2.1.in-addr.arpa",
		"\x00\x00\x00\x00":                  "0.0.0.0.in-addr.arpa",
		"\xff\xff\xff\xff":                  "255.255.255.255.in-addr.arpa",
		"\x7f\x00\x00\x01":                  "1.0.0.127.in-addr.arpa",
		"1.23":                              "51.50.46.49.in-addr.arpa",
		"\xc0\xa8\x0a\xc8":                  "200.10.168.192.in-addr.arpa",
		strings.Repeat("\x00", 15) + "\x01": "1" + strings.Repeat(".0", 31) + ".ip6.arpa",
		strings.Repeat("\xff", 16):          "f" + strings.Repeat(".f", 31) + ".ip6.arpa",
		"\xab" + strings.Repeat("\x00", 15): strings.Repeat("0.", 30) + "b.a.ip6.arpa",
		"\x01\x23\x45\x67\x89\xab\xcd\xef\xfe\xdc\xba\x98\x76\x54\x32\x10": "0.1.2.3.4.5.6.7.8.9.a.b.c.d.e.f.f.e.d.c.b.a.9.8.7.6.5.4.3.2.1.0.ip6.arpa",
	} {
		if got := names.Reverse(a); got != want {
			t.Errorf("P4.3: Reverse(%x): %s, want %s", a, got, want)
		}
	}
	for n := range 40 {
		for _, c := range []string{"\x01", "1", ":", "\xff"} {
			if a := strings.Repeat(c, n); n != 4 && n != 16 && names.Reverse(a) != "" {
				t.Errorf("P4.3: Reverse(%q): %q", a, names.Reverse(a))
			}
		}
	}
}

// TestReverseBytes lays each byte at each place of both kinds of addresses.
func TestReverseBytes(t *testing.T) {
	for _, length := range []int{4, 16} {
		for place := range length {
			for b := range 256 {
				a := bytes.Repeat([]byte{0x5e}, length)
				a[place] = byte(b)
				want := turned(a)
				got := names.Reverse(string(a))
				if got != want {
					t.Fatalf("P4.3: Reverse(%x): %s, want %s", a, got, want)
				}
				if cleaned(got) != got {
					t.Fatalf("P4.3: Reverse(%x) is no cleaned name: %s", a, got)
				}
			}
		}
	}
}

// turned: what Reverse must answer for an address, another way.
func turned(a []byte) string {
	var parts []string
	end := ".ip6.arpa"
	if len(a) == 4 {
		end = ".in-addr.arpa"
		parts = strings.Split(strings.Trim(fmt.Sprint(a), "[]"), " ")
	} else {
		parts = strings.Split(hex.EncodeToString(a), "")
	}
	slices.Reverse(parts)
	return strings.Join(parts, ".") + end
}
