package text_test

import (
	"bytes"
	"fmt"
	"math"
	"strconv"
	"strings"
	"testing"

	"concierge/text"
)

// told tells what Lines answers in one text: a row a line, its words in quotes.
func told(body string) string {
	var rows []string
	for _, l := range text.Lines([]byte(body)) {
		rows = append(rows, fmt.Sprintf("%d %q", l.No, l.Words))
	}
	return strings.Join(rows, "; ")
}

func TestLines(t *testing.T) {
	for _, c := range []struct{ why, body, want string }{
		{"an empty text", "", ``},
		{"the text ends the last line", "one two", `1 ["one" "two"]`},
		{"a newline ends the last line", "one two\n", `1 ["one" "two"]`},
		{"lines in order", "c\nb\na", `1 ["c"]; 2 ["b"]; 3 ["a"]`},
		{"a word again", "a a\na", `1 ["a" "a"]; 2 ["a"]`},
		{"lines without a word are counted", "\n\na\n\n \n\t\r\n# x\nb\n\n", `3 ["a"]; 8 ["b"]`},
		{"newlines alone", "\n\n\n", ``},
		{"blanks, tabs, carriage returns", " a  b\tc\t\td\re\r\rf \t\r", `1 ["a" "b" "c" "d" "e" "f"]`},
		{"a carriage return ends no line", "a\rb\r\nc\r", `1 ["a" "b"]; 2 ["c"]`},
		{"a # ends what counts", "a b # c d\ne", `1 ["a" "b"]; 2 ["e"]`},
		{"a # within a word", "ab#cd ef", `1 ["ab"]`},
		{"a # behind a #", "a#b#c\nd ## e", `1 ["a"]; 2 ["d"]`},
		{"a # ahead of all", "#a\n # b\nc", `3 ["c"]`},
		{"all other signs are words'", "!\"$%&'()*+,-./:;<=>?@[\\]^_`{|}~", `1 ["!\"$%&'()*+,-./:;<=>?@[\\]^_` + "`" + `{|}~"]`},
		{"words are not folded", "Aa aA", `1 ["Aa" "aA"]`},
	} {
		if got := told(c.body); got != c.want {
			t.Errorf("P2.1: %s: Lines(%q): %s, want %s", c.why, c.body, got, c.want)
		}
	}
}

// TestBytes lays each byte within a word, and behind a #.
func TestBytes(t *testing.T) {
	for b := range 256 {
		s := string([]byte{byte(b)})
		word, comment := `1 ["a`+s+`z"]; 2 ["b"]`, `1 ["a"]; 2 ["b"]`
		switch {
		case b == '\n':
			word, comment = `1 ["a"]; 2 ["z"]; 3 ["b"]`, `1 ["a"]; 2 ["z"]; 3 ["b"]`
		case b == ' ' || b == '\t' || b == '\r':
			word = `1 ["a" "z"]; 2 ["b"]`
		case b == '#':
			word = `1 ["a"]; 2 ["b"]`
		case b < 32 || b >= 127:
			word, comment = `2 ["b"]`, `2 ["b"]`
		case b == '"' || b == '\\':
			word = `1 ["a\` + s + `z"]; 2 ["b"]`
		}
		if got := told("a" + s + "z\nb"); got != word {
			t.Errorf("P2.1: byte %d in a word: %s, want %s", b, got, word)
		}
		if got := told("a #" + s + "z\nb"); got != comment {
			t.Errorf("P2.1: byte %d behind a #: %s, want %s", b, got, comment)
		}
	}
}

func TestLongLines(t *testing.T) {
	blanks := strings.Repeat(" ", 511)
	for _, c := range []struct {
		why, line string
		told      bool
	}{
		{"512 bytes of a word", strings.Repeat("x", 512), true},
		{"513 bytes of a word", strings.Repeat("x", 513), false},
		{"512 bytes with blanks", blanks + "x", true},
		{"513 bytes with blanks ahead", blanks + " x", false},
		{"513 bytes with blanks behind", "x" + blanks + " ", false},
		{"512 bytes with what a # leaves out", "x#" + strings.Repeat("y", 510), true},
		{"513 bytes with what a # leaves out", "x#" + strings.Repeat("y", 511), false},
		{"512 bytes with a carriage return", blanks[1:] + "x\r", true},
		{"513 bytes with a carriage return", blanks + "x\r", false},
		{"a huge line", strings.Repeat("x ", 1<<20), false},
	} {
		for _, end := range []string{"", "\n"} {
			lines := text.Lines([]byte("a\n" + c.line + end))
			if got := len(lines) == 2 && lines[1].No == 2; got != c.told {
				t.Errorf("P2.1: %s, end %q: told %t, want %t", c.why, end, got, c.told)
			}
		}
		// One that is passed over is counted all the same.
		if lines := text.Lines([]byte(c.line + "\nb")); lines[len(lines)-1].No != 2 {
			t.Errorf("P2.1: %s: the line behind it is number %d", c.why, lines[len(lines)-1].No)
		}
	}
}

func TestManyLines(t *testing.T) {
	const many = 100000
	lines := text.Lines([]byte(strings.Repeat("a b\n\n", many)))
	if len(lines) != many {
		t.Fatalf("P2.1: %d lines, want %d", len(lines), many)
	}
	for i, l := range lines {
		if l.No != 2*i+1 || len(l.Words) != 2 {
			t.Fatalf("P2.1: line %d is number %d with the words %q", i, l.No, l.Words)
		}
	}
}

func TestLinesOwnMemory(t *testing.T) {
	const body, room = "a b\n\xff\nc d e", "spare\nroom"
	all := []byte(body + room)
	handed := all[:len(body)]
	first, second := text.Lines(handed), text.Lines(handed)
	if string(all) != body+room {
		t.Errorf("P0.3: the body that was handed in, or its room: %q", all)
	}
	copy(all, bytes.Repeat([]byte("!"), len(all)))
	if got := fmt.Sprint(first, second); got != "[{1 [a b]} {3 [c d e]}] [{1 [a b]} {3 [c d e]}]" {
		t.Errorf("P0.3: what was answered is kept in the body: %s", got)
	}
	for i := range first {
		words := first[i].Words[:cap(first[i].Words)]
		for j := range words {
			words[j] = "!"
		}
		if i == 0 && fmt.Sprint(first[1].Words) != "[c d e]" {
			t.Errorf("P0.3: two lines of one answer share words: %q", first[1].Words)
		}
	}
	clear(first[:cap(first)])
	if got := fmt.Sprint(second); got != "[{1 [a b]} {3 [c d e]}]" {
		t.Errorf("P0.3: two answers share memory: %s", got)
	}
}

func TestNoLines(t *testing.T) {
	for _, body := range [][]byte{nil, {}, make([]byte, 0, 9), {0}, {255}, {'#'}} {
		if lines := text.Lines(body); len(lines) != 0 {
			t.Errorf("P0.1, P0.4: Lines(%q): %v", body, lines)
		}
	}
}

func TestFold(t *testing.T) {
	for b := range 256 {
		want := byte(b)
		if at := strings.IndexByte("ABCDEFGHIJKLMNOPQRSTUVWXYZ", want); at >= 0 {
			want = "abcdefghijklmnopqrstuvwxyz"[at]
		}
		s := string([]byte{'x', byte(b), 'y'})
		if got := text.Fold(s); got != string([]byte{'x', want, 'y'}) {
			t.Errorf("P2.1: Fold(%q): %q", s, got)
		}
	}
	for s, want := range map[string]string{
		"":                "",
		"Gate.Example":    "gate.example",
		"ALL BIG\n":       "all big\n",
		"\u00c4\u03a9 K":  "\u00c4\u03a9 k",
		"\u212a\u0130Z":   "\u212a\u0130z",
		"A\xff\xc0\x80Z#": "a\xff\xc0\x80z#",
	} {
		if got := text.Fold(s); got != want {
			t.Errorf("P2.1: Fold(%q): %q, want %q", s, got, want)
		}
	}
}

func TestNum(t *testing.T) {
	for _, c := range []struct {
		s    string
		most int
		n    int
		ok   bool
	}{
		{"0", 0, 0, true},
		{"0", math.MaxInt, 0, true},
		{"0", -1, 0, false},
		{"0", math.MinInt, 0, false},
		{"1", 0, 0, false},
		{"1", 1, 1, true},
		{"65535", 65535, 65535, true},
		{"65536", 65535, 0, false},
		{"10", 10, 10, true},
		{"100", 100, 100, true},
		{"123456789", math.MaxInt, 123456789, true},
		{"999999999", 999999999, 999999999, true},
		{"999999999", 999999998, 0, false},
		{"1000000000", math.MaxInt, 0, false},
		{"9999999999", math.MaxInt, 0, false},
		{"18446744073709551617", math.MaxInt, 0, false},
		{strings.Repeat("1", 1<<16), math.MaxInt, 0, false},
		{"00", 9, 0, false},
		{"01", 9, 0, false},
		{"0123", 999, 0, false},
		{"000000000", 9, 0, false},
		{"0000000001", 9, 0, false},
		{"", 9, 0, false},
		{"", -1, 0, false},
		{"-0", 9, 0, false},
		{"-1", 9, 0, false},
		{"+1", 9, 0, false},
		{" 1", 9, 0, false},
		{"1 ", 9, 0, false},
		{"1\n", 9, 0, false},
		{"1_0", 99, 0, false},
		{"1.0", 99, 0, false},
		{"1e1", 99, 0, false},
		{"0x1", 99, 0, false},
		{"a", 99, 0, false},
		{"1a", 99, 0, false},
		{"\x00", 99, 0, false},
		{"\xff", 99, 0, false},
		{"1\xff", 99, 0, false},
		{"١", 9, 0, false},
		{"1٢", 99, 0, false},
	} {
		if n, ok := text.Num(c.s, c.most); n != c.n || ok != c.ok {
			t.Errorf("P2.1: Num(%.30q, %d): %d, %t, want %d, %t", c.s, c.most, n, ok, c.n, c.ok)
		}
	}
}

// TestNumBytes lays each byte as a number's only one, first, and last.
func TestNumBytes(t *testing.T) {
	for b := range 256 {
		digit := b >= '0' && b <= '9'
		for _, c := range []struct {
			s  string
			ok bool
		}{
			{string([]byte{byte(b)}), digit},
			{string([]byte{byte(b), '5'}), digit && b != '0'},
			{string([]byte{'5', byte(b)}), digit},
		} {
			want := 0
			if c.ok {
				want, _ = strconv.Atoi(c.s)
			}
			if n, ok := text.Num(c.s, math.MaxInt); n != want || ok != c.ok {
				t.Errorf("P2.1: Num(%q): %d, %t, want %d, %t", c.s, n, ok, want, c.ok)
			}
		}
	}
}

// TestAllNums writes and reads numbers around each power of ten.
func TestAllNums(t *testing.T) {
	for power := 1; power <= 1e9; power *= 10 {
		for n := max(power-1000, 0); n <= power+1000; n++ {
			s, fits := strconv.Itoa(n), n <= 999999999
			want := 0
			if fits {
				want = n
			}
			if got, ok := text.Num(s, math.MaxInt); got != want || ok != fits {
				t.Fatalf("P2.1: Num(%q): %d, %t", s, got, ok)
			}
			if got, ok := text.Num(s, n); got != want || ok != fits {
				t.Fatalf("P2.1: Num(%q, %d): %d, %t", s, n, got, ok)
			}
			if got, ok := text.Num(s, n-1); got != 0 || ok {
				t.Fatalf("P2.1: Num(%q, %d): %d, %t", s, n-1, got, ok)
			}
		}
	}
}

// TestShortTexts holds Lines against the words of the promise, byte by byte, at all texts of a few bytes.
func TestShortTexts(t *testing.T) {
	const signs = "aB \r\n#\x00\xff"
	var grow func(body string, left int)
	grow = func(body string, left int) {
		if got, want := fmt.Sprint(text.Lines([]byte(body))), plain(body); got != want {
			t.Fatalf("P2.1: Lines(%q): %s, want %s", body, got, want)
		}
		for i := 0; left > 0 && i < len(signs); i++ {
			grow(body+signs[i:i+1], left-1)
		}
	}
	grow("", 5)
}

// plain tells what Lines must answer for a short text, another way.
func plain(body string) string {
	lines := []text.Line{}
	for i, line := range strings.Split(body, "\n") {
		kept := strings.NewReplacer("\t", " ", "\r", " ").Replace(strings.SplitN(line, "#", 2)[0])
		words := strings.Fields(kept)
		if len(words) > 0 && !strings.Contains(line, "\x00") && !strings.Contains(line, "\xff") {
			lines = append(lines, text.Line{No: i + 1, Words: words})
		}
	}
	return fmt.Sprint(lines)
}
