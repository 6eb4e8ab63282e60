package hosttab_test

import (
	"bytes"
	"fmt"
	"slices"
	"strings"
	"testing"

	"concierge/addr"
	"concierge/hosttab"
)

// label is the longest one that may be, and longest a name of 253 bytes.
var (
	label   = strings.Repeat("a", 63)
	longest = label + "." + label + "." + label + "." + label[:61]
)

// parse reads the table that the lines make.
func parse(lines ...string) *hosttab.Table {
	return hosttab.Parse([]byte(strings.Join(lines, "\n")))
}

// addrs tells what ByName answers in one text: addresses as they are printed, with blanks between.
func addrs(t *hosttab.Table, name string) string {
	var told []string
	for _, a := range t.ByName(name) {
		told = append(told, addr.Print(a))
	}
	return strings.Join(told, " ")
}

// named tells what ByAddr answers in one text, for an address as it is printed.
func named(t *testing.T, table *hosttab.Table, printed string) string {
	t.Helper()
	a, ok := addr.Parse(printed)
	if !ok {
		t.Fatalf("the test asks for %q, which is no address", printed)
	}
	return strings.Join(table.ByAddr(a), " ")
}

// TestRows: which lines are rows. Each has the address 1.2.3.4 and the name a, if it is one.
func TestRows(t *testing.T) {
	for _, c := range []struct {
		why, line string
		names     string
	}{
		{"an address and a name", "1.2.3.4 a", "a"},
		{"several names", "1.2.3.4 a b c", "a b c"},
		{"names in the order of the line", "1.2.3.4 c a b", "c a b"},
		{"other blanks", "\t1.2.3.4\t \ra \r", "a"},
		{"a # behind the names", "1.2.3.4 a # b", "a"},
		{"a # within a name", "1.2.3.4 a#b c", "a"},
		{"names are folded", "1.2.3.4 A Gate.EXAMPLE", "a gate.example"},
		{"rooted names", "1.2.3.4 a. Gate.Example.", "a gate.example"},
		{"a name that looks like an address", "1.2.3.4 1.2.3.4 a", "1.2.3.4 a"},
		{"words that are no names are left out", "1.2.3.4 ! a b..c d .e :: b", "a d b"},
		{"the first name is none", "1.2.3.4 * a", "a"},
		{"the last name is none", "1.2.3.4 a *", "a"},
		{"a name again", "1.2.3.4 a b A a.", "a b a a"},
		{"the longest label", "1.2.3.4 a " + label, "a " + label},
		{"too long a label", "1.2.3.4 a " + label + "a", "a"},
		{"the longest name", "1.2.3.4 a " + longest, "a " + longest},
		{"the longest name, rooted", "1.2.3.4 a " + strings.ToUpper(longest) + ".", "a " + longest},
		{"too long a name", "1.2.3.4 a " + longest + "a b", "a b"},
		{"a line of 512 bytes", "1.2.3.4 a" + strings.Repeat(" ", 503), "a"},
		{"a line of 512 bytes with what a # leaves out", "1.2.3.4 a#" + strings.Repeat("x", 502), "a"},

		{"no name", "1.2.3.4", ""},
		{"no name, but blanks", "1.2.3.4 \t", ""},
		{"the name is left out", "1.2.3.4 #a", ""},
		{"no word is a name", "1.2.3.4 ! a..b .a", ""},
		{"one word alone, and it is none", "1.2.3.4 " + label + "a", ""},
		{"no address", "x a", ""},
		{"a name ahead of the address", "a 1.2.3.4", ""},
		{"all is left out", "#1.2.3.4 a", ""},
		{"the address is left out", "# 1.2.3.4\ta", ""},
		{"the name is part of the address", "1.2.3.4a", ""},
		{"an address with a 0 ahead", "01.2.3.4 a", ""},
		{"an address with a point at its end", "1.2.3.4. a", ""},
		{"an address of three numbers", "1.2.3 a", ""},
		{"an address of five numbers", "1.2.3.4.5 a", ""},
		{"an address with too great a number", "1.2.3.256 a", ""},
		{"an address with a prefix's length", "1.2.3.4/8 a", ""},
		{"an address with a zone", "fe80::1%1 a", ""},
		{"an address in brackets", "[::1] a", ""},
		{"a line of 513 bytes", "1.2.3.4 a" + strings.Repeat(" ", 504), ""},
		{"a line of 513 bytes with what a # leaves out", "1.2.3.4 a#" + strings.Repeat("x", 503), ""},
		{"a foreign byte", "1.2.3.4 a \x00", ""},
		{"a foreign byte behind a #", "1.2.3.4 a # \xc3\xa4", ""},
		{"nothing", "", ""},
	} {
		for _, end := range []string{"", "\n"} {
			table := hosttab.Parse([]byte(c.line + end))
			rows, want := 0, ""
			if c.names != "" {
				rows, want = 1, "1.2.3.4"
			}
			if got := table.Len(); got != rows {
				t.Errorf("P6.1: %s: Len: %d, want %d", c.why, got, rows)
			}
			if got := named(t, table, "1.2.3.4"); got != c.names {
				t.Errorf("P6.1: %s: ByAddr: %q, want %q", c.why, got, c.names)
			}
			if got := addrs(table, "a"); got != want {
				t.Errorf("P6.1: %s: ByName: %q, want %q", c.why, got, want)
			}
			for name := range strings.FieldsSeq(c.names) {
				if got := addrs(table, name); got != want {
					t.Errorf("P6.1: %s: ByName(%q): %q, want %q", c.why, name, got, want)
				}
			}
		}
	}
}

// TestNameBytes lays each byte within the one name of a line.
func TestNameBytes(t *testing.T) {
	for b := range 256 {
		s := string([]byte{byte(b)})
		want := ""
		switch {
		case strings.Contains("abcdefghijklmnopqrstuvwxyz0123456789-_.", s):
			want = "x" + s + "y"
		case strings.Contains("ABCDEFGHIJKLMNOPQRSTUVWXYZ", s):
			want = "x" + strings.ToLower(s) + "y"
		case strings.Contains(" \t\r", s):
			want = "x y"
		case strings.Contains("\n#", s):
			want = "x"
		}
		table := hosttab.Parse([]byte("1.2.3.4 x" + s + "y"))
		if got := named(t, table, "1.2.3.4"); got != want || (table.Len() == 1) != (want != "") {
			t.Errorf("P6.1: byte %d in a name: %d rows, %q, want %q", b, table.Len(), got, want)
		}
	}
}

func TestByName(t *testing.T) {
	table := parse(
		"9.9.9.9 b a",
		"# 1.1.1.1 a",
		"1.1.1.1 A",
		"a 2.2.2.2",
		"::1 x a.",
		"2.2.2.2 a.b",
		"9.9.9.9 a",
		"3.3.3.3 ! a !",
		"::ffff:1.1.1.1 a c",
		"0:0::0:1 A",
		"4.4.4.4",
		"5.5.5.5 5.5.5.5 a-",
	)
	if got := table.Len(); got != 9 {
		t.Errorf("P6.1: Len: %d", got)
	}
	for name, want := range map[string]string{
		"a":           "9.9.9.9 1.1.1.1 ::1 3.3.3.3 ::ffff:101:101",
		"A":           "9.9.9.9 1.1.1.1 ::1 3.3.3.3 ::ffff:101:101",
		"a.":          "9.9.9.9 1.1.1.1 ::1 3.3.3.3 ::ffff:101:101",
		"A.":          "9.9.9.9 1.1.1.1 ::1 3.3.3.3 ::ffff:101:101",
		"b":           "9.9.9.9",
		"x":           "::1",
		"X.":          "::1",
		"a.b":         "2.2.2.2",
		"A.B.":        "2.2.2.2",
		"c":           "::ffff:101:101",
		"5.5.5.5":     "5.5.5.5",
		"a-":          "5.5.5.5",
		"2.2.2.2":     "",
		"4.4.4.4":     "",
		"d":           "",
		"a.b.c":       "",
		"a..":         "",
		".a":          "",
		"":            "",
		".":           "",
		"!":           "",
		" a":          "",
		"a ":          "",
		"a\x00":       "",
		"a\n":         "",
		"\xff":        "",
		"\u212a":      "",
		"a b":         "",
		"x a":         "",
		label + "a":   "",
		longest + "a": "",
	} {
		if got := addrs(table, name); got != want {
			t.Errorf("P6.1: ByName(%q): %q, want %q", name, got, want)
		}
	}
}

func TestByAddr(t *testing.T) {
	table := parse(
		"1.2.3.4 !",
		"1.2.3.4",
		"#1.2.3.4 x",
		"1.2.3.4 B a",
		"1.2.3.4 c",
		"::1 d",
		"0:0:0:0:0:0:0:1 e",
		"::ffff:1.2.3.4 f",
		"FE80::A g",
		"0.0.0.0 h",
		":: i",
		"1.2.3.4 b",
	)
	if got := table.Len(); got != 9 {
		t.Errorf("P6.1: Len: %d", got)
	}
	for printed, want := range map[string]string{
		"1.2.3.4":             "b a",
		"::1":                 "d",
		"::0.0.0.1":           "d",
		"::ffff:1.2.3.4":      "f",
		"::ffff:102:304":      "f",
		"fe80::a":             "g",
		"0.0.0.0":             "h",
		"::":                  "i",
		"::1.2.3.4":           "",
		"1.2.3.5":             "",
		"4.3.2.1":             "",
		"102:304::":           "",
		"255.255.255.255":     "",
		"fe80::b":             "",
		"ffff::1.2.3.4":       "",
		"0:0:0:0:0:0:1:0":     "",
		"0.0.0.1":             "",
		"1:2:3:4:5:6:1.2.3.4": "",
	} {
		if got := named(t, table, printed); got != want {
			t.Errorf("P6.1: ByAddr of %s: %q, want %q", printed, got, want)
		}
	}
	for _, a := range []string{"", "x", "a", "b a", "1.2.3.4", "::1", "\x01", "\x01\x02\x03", "\x01\x02\x03\x04\x00", "\x01\x02\x03\x04\n", "\x00\x00\x00", strings.Repeat("\x00", 15), strings.Repeat("\x00", 17), strings.Repeat("\xff", 1<<20)} {
		if got := table.ByAddr(a); len(got) != 0 {
			t.Errorf("P6.1: ByAddr(%.40q): %q", a, got)
		}
	}
}

// rows writes a row for each number from first to last: the address 10.0 with that number, and the names behind.
func rows(first, last int, names string) string {
	var b strings.Builder
	for i := first; i <= last; i++ {
		fmt.Fprintf(&b, "10.0.%d.%d %s\n", i/256, i%256, names)
	}
	return b.String()
}

// TestMostAddrs: ByName answers the first 32, those that come again not counted; ByAddr and Len know of no such bound.
func TestMostAddrs(t *testing.T) {
	for _, c := range []struct {
		why, body string
		found     int
		len       int
	}{
		{"one too few", rows(0, 30, "h"), 31, 31},
		{"just as many", rows(0, 31, "h"), 32, 32},
		{"one too many", rows(0, 32, "h"), 32, 33},
		{"many", rows(0, 999, "h"), 32, 1000},
		{"one again, ahead of the last", rows(0, 30, "h") + rows(0, 0, "h") + rows(31, 40, "h"), 32, 42},
		{"all again, ahead of the last", rows(0, 30, "h") + rows(0, 30, "h") + rows(31, 40, "h"), 32, 72},
		{"all again, behind them", rows(0, 40, "h") + rows(0, 40, "h"), 32, 82},
		{"each in two rows", strings.ReplaceAll(rows(0, 40, "h"), "\n", "\n1.1.1.1 x\n"), 32, 82},
		{"rows of other names don't count", rows(100, 200, "x") + rows(0, 40, "h") + rows(300, 400, "y"), 32, 243},
		{"a name that comes again counts once", rows(0, 40, "h H h. h"), 32, 41},
		{"lines that are no rows don't count", rows(100, 200, "!") + rows(0, 40, "h"), 32, 41},
	} {
		table := hosttab.Parse([]byte(c.body))
		if got := table.Len(); got != c.len {
			t.Errorf("P6.1: %s: Len: %d, want %d", c.why, got, c.len)
		}
		got := table.ByName("H")
		if len(got) != c.found {
			t.Errorf("P6.1: %s: %d addresses, want %d", c.why, len(got), c.found)
		}
		for i, a := range got {
			if want := fmt.Sprintf("10.0.0.%d", i); addr.Print(a) != want {
				t.Errorf("P6.1: %s: address %d: %s, want %s", c.why, i, addr.Print(a), want)
			}
		}
	}
	table := hosttab.Parse([]byte(rows(0, 999, "h")))
	if got := named(t, table, "10.0.3.231"); got != "h" {
		t.Errorf("P6.1: ByAddr of a late row: %q", got)
	}
}

// TestManyNames: ByAddr answers all names of its row, however many.
func TestManyNames(t *testing.T) {
	want := strings.TrimSpace(strings.Repeat("b ", 253))
	table := hosttab.Parse([]byte("::1 " + strings.ToUpper(want) + "\n::1 a"))
	if got := named(t, table, "::1"); got != want {
		t.Errorf("P6.1: ByAddr of a row of 253 names: %q", got)
	}
	if got := addrs(table, "a") + " " + addrs(table, "b"); got != "::1 ::1" {
		t.Errorf("P6.1: ByName of a row of 253 names: %s", got)
	}
}

// TestHuge: long tables are read and asked in no great time.
func TestHuge(t *testing.T) {
	const many = 200000
	var b strings.Builder
	for i := range many {
		fmt.Fprintf(&b, "10.%d.%d.%d h h%d all\n", i>>16, i>>8&255, i&255, i)
	}
	table := hosttab.Parse([]byte(b.String()))
	if got := table.Len(); got != many {
		t.Fatalf("P6.1: Len: %d", got)
	}
	for i := range many {
		want := fmt.Sprintf("10.%d.%d.%d", i>>16, i>>8&255, i&255)
		if got := addrs(table, fmt.Sprintf("H%d.", i)); got != want {
			t.Fatalf("P6.1: ByName of row %d: %q, want %q", i, got, want)
		}
		if got := table.ByAddr(string([]byte{10, byte(i >> 16), byte(i >> 8), byte(i)})); fmt.Sprint(got) != fmt.Sprintf("[h h%d all]", i) {
			t.Fatalf("P6.1: ByAddr of row %d: %q", i, got)
		}
	}
	for _, piece := range []string{"\n", " ", "#", "a", "1.2.3.4 ", "\x00", "\xff", ".", ":", "::1 a "} {
		if got := hosttab.Parse(bytes.Repeat([]byte(piece), 1<<20)).Len(); got != 0 {
			t.Errorf("P0.1: Len of many %q: %d", piece, got)
		}
		if got := table.ByName(strings.Repeat(piece, 1<<20)); len(got) != 0 {
			t.Errorf("P0.1: ByName of many %q: %q", piece, got)
		}
	}
}

// TestNoTable: a nil table and those without a row answer nothing.
func TestNoTable(t *testing.T) {
	for why, table := range map[string]*hosttab.Table{
		"nil":               nil,
		"a zero one":        {},
		"of nil":            hosttab.Parse(nil),
		"of an empty body":  hosttab.Parse([]byte{}),
		"of spare room":     hosttab.Parse([]byte("1.2.3.4 a")[:0]),
		"of a name":         parse("a"),
		"of foreign bytes":  parse("1.2.3.4 a\x00"),
		"of rows left out":  parse("# 1.2.3.4 a", "#::1 a"),
		"of no name at all": parse("1.2.3.4 !", "::1 a..b"),
	} {
		if got := table.Len(); got != 0 {
			t.Errorf("P6.1: a table %s: Len: %d", why, got)
		}
		for _, s := range []string{"", "a", "A.", "!", "\x01\x02\x03\x04", strings.Repeat("\x00", 15) + "\x01", longest} {
			if got := table.ByName(s); len(got) != 0 {
				t.Errorf("P6.1: a table %s: ByName(%q): %q", why, s, got)
			}
			if got := table.ByAddr(s); len(got) != 0 {
				t.Errorf("P6.1: a table %s: ByAddr(%q): %q", why, s, got)
			}
		}
	}
	if hosttab.Parse(nil) == nil {
		t.Error("P6.1: Parse(nil) is no table")
	}
}

// spoil writes into a list and its spare room.
func spoil(list []string) {
	list = list[:cap(list)]
	for i := range list {
		list[i] = "!"
	}
}

func TestOwnMemory(t *testing.T) {
	const body, room = "1.2.3.4 a b c\n::1 a\n1.2.3.4 d", "\nspare room"
	all := []byte(body + room)
	table, other := hosttab.Parse(all[:len(body)]), hosttab.Parse(all[:len(body)])
	if string(all) != body+room {
		t.Errorf("P0.3: the body that was handed in, or its room: %q", all)
	}
	copy(all, bytes.Repeat([]byte("!"), len(all)))
	for range 3 {
		for _, asked := range []*hosttab.Table{table, other} {
			if got := fmt.Sprintf("%d; %s; %s; %s", asked.Len(), addrs(asked, "a"), named(t, asked, "1.2.3.4"), addrs(asked, "d")); got != "3; 1.2.3.4 ::1; a b c; 1.2.3.4" {
				t.Errorf("P0.3: what the table says is shared: %s", got)
			}
		}
		kept := [][]string{table.ByName("a"), table.ByAddr("\x01\x02\x03\x04")}
		spoil(table.ByName("a"))
		spoil(table.ByAddr("\x01\x02\x03\x04"))
		if got := fmt.Sprintf("%q", kept); got != `[["\x01\x02\x03\x04" "\x00\x00\x00\x00\x00\x00\x00\x00\x00\x00\x00\x00\x00\x00\x00\x01"] ["a" "b" "c"]]` {
			t.Errorf("P0.3: two answers share memory: %s", got)
		}
	}
}

// row is one of the second reading.
type row struct {
	addr  string
	names []string
}

// plain reads a table of known words another way: what each of them is, the maps say.
func plain(body string, known map[string]string, clean map[string]string) []row {
	var found []row
	for line := range strings.SplitSeq(body, "\n") {
		line, _, _ = strings.Cut(line, "#")
		words := strings.Fields(line)
		if len(words) == 0 || known[words[0]] == "" {
			continue
		}
		r := row{addr: known[words[0]]}
		for _, w := range words[1:] {
			if clean[w] != "" {
				r.names = append(r.names, clean[w])
			}
		}
		if len(r.names) > 0 {
			found = append(found, r)
		}
	}
	return found
}

// byName goes through the rows of the second reading.
func byName(found []row, name string) []string {
	all := []string{}
	for _, r := range found {
		if slices.Contains(r.names, name) && !slices.Contains(all, r.addr) {
			all = append(all, r.addr)
		}
	}
	return all[:min(len(all), 32)]
}

// byAddr goes through them too.
func byAddr(found []row, a string) []string {
	for _, r := range found {
		if r.addr == a {
			return r.names
		}
	}
	return nil
}

// agree holds what Parse makes of body against its second reading.
func agree(t *testing.T, body string, known map[string]string, clean map[string]string) {
	t.Helper()
	table, found := hosttab.Parse([]byte(body)), plain(body, known, clean)
	if got := table.Len(); got != len(found) {
		t.Fatalf("P6.1: %q: Len: %d, want %d", body, got, len(found))
	}
	for asked, name := range clean {
		if got, want := table.ByName(asked), byName(found, name); !slices.Equal(got, want) {
			t.Fatalf("P6.1: %q: ByName(%q): %q, want %q", body, asked, got, want)
		}
	}
	for _, a := range known {
		if got, want := table.ByAddr(a), byAddr(found, a); !slices.Equal(got, want) {
			t.Fatalf("P6.1: %q: ByAddr(%q): %q, want %q", body, a, got, want)
		}
	}
}

// TestShortTables: all texts of a few words.
func TestShortTables(t *testing.T) {
	known := map[string]string{"1.2.3.4": "\x01\x02\x03\x04", "::1": strings.Repeat("\x00", 15) + "\x01"}
	clean := map[string]string{"a": "a", "A.": "a", "b": "b", "1.2.3.4": "1.2.3.4"}
	pieces := []string{"1.2.3.4", "::1", "a", "A.", "b", "!", "#", "\n"}
	var grow func(body string, left int)
	grow = func(body string, left int) {
		agree(t, body, known, clean)
		for i := 0; left > 0 && i < len(pieces); i++ {
			grow(body+" "+pieces[i], left-1)
		}
	}
	grow("", 5)
	grow("1.2.3.4 a b\n", 4)
	grow("::1 !\n1.2.3.4 b\n::1 A.\n", 4)
}

// TestLongTables: many rows of few addresses and names, in orders that a short rule makes.
func TestLongTables(t *testing.T) {
	known, clean := map[string]string{}, map[string]string{"!": ""}
	var first, behind []string
	for i := range 50 {
		printed, name := fmt.Sprintf("10.0.0.%d", i), fmt.Sprintf("Host%d.", i%7)
		known[printed] = string([]byte{10, 0, 0, byte(i)})
		clean[name] = fmt.Sprintf("host%d", i%7)
		first, behind = append(first, printed), append(behind, name)
	}
	behind = append(behind, "!", "#", "..")
	for seed := range uint32(200) {
		n := seed
		next := func(most int) int {
			n = n*1664525 + 1013904223
			return int(n>>16) % most
		}
		var b strings.Builder
		for range next(300) {
			b.WriteString(first[next(len(first))])
			for range next(6) {
				b.WriteString(" " + behind[next(len(behind))])
			}
			b.WriteString("\n")
		}
		agree(t, b.String(), known, clean)
	}
}
