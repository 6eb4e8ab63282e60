package svctab_test

import (
	"bytes"
	"cmp"
	"fmt"
	"math"
	"slices"
	"strconv"
	"strings"
	"testing"

	"concierge/svctab"
)

// longest is a service's name of 32 bytes.
var longest = strings.Repeat("Long-1_.", 4)

// parse reads the table that the lines make.
func parse(lines ...string) *svctab.Table {
	return svctab.Parse([]byte(strings.Join(lines, "\n")))
}

// port tells what ByName answers in one text: the port, or no.
func port(t *testing.T, table *svctab.Table, name, proto string) string {
	t.Helper()
	n, ok := table.ByName(name, proto)
	if ok {
		return strconv.Itoa(n)
	}
	if n != 0 {
		t.Errorf("P0.2: ByName(%.40q, %.40q): %d, false", name, proto, n)
	}
	return "no"
}

// named tells what ByPort answers in one text: names with blanks between, or no.
func named(t *testing.T, table *svctab.Table, n int, proto string) string {
	t.Helper()
	found, ok := table.ByPort(n, proto)
	if ok {
		return strings.Join(found, " ")
	}
	if len(found) != 0 {
		t.Errorf("P0.2: ByPort(%d, %.40q): %q, false", n, proto, found)
	}
	return "no"
}

// TestRows: which lines are rows. Each has the port 80 and the protocol tcp, if it is one.
func TestRows(t *testing.T) {
	for _, c := range []struct{ why, line, names string }{
		{"a name, a port and a protocol", "http 80/tcp", "http"},
		{"an alias", "http 80/tcp www", "http www"},
		{"aliases in the order of the line", "c 80/tcp b a d", "c b a d"},
		{"other blanks", "\thttp\t \r80/tcp\r\t www \r", "http www"},
		{"a # behind the protocol", "http 80/tcp # www", "http"},
		{"a # at the protocol", "http 80/tcp#www web", "http"},
		{"a # within an alias", "http 80/tcp www#x web", "http www"},
		{"names are as they stand", "Http 80/tcp WWW wWw", "Http WWW wWw"},
		{"the protocol in other letters", "http 80/TCP www", "http www"},
		{"the protocol in letters of both kinds", "http 80/tCp", "http"},
		{"names of all signs", "a-_.Z9 80/tcp -- __ .. 0 A.b.", "a-_.Z9 -- __ .. 0 A.b."},
		{"a name that is a number", "80 80/tcp 81", "80 81"},
		{"aliases that are no names are passed over", "http 80/tcp ! www a/b 80/udp a:b + web *", "http www web"},
		{"no alias is a name", "http 80/tcp ! 81/tcp", "http"},
		{"a name again", "http 80/tcp http www http", "http http www http"},
		{"a name of 1 byte", "x 80/tcp y", "x y"},
		{"names of 32 bytes", longest + " 80/tcp x" + longest[1:], longest + " x" + longest[1:]},
		{"an alias of 33 bytes", "http 80/tcp " + longest + "x www", "http www"},
		{"a line of 512 bytes", "http 80/tcp" + strings.Repeat(" ", 501), "http"},
		{"a line of 512 bytes with what a # leaves out", "http 80/tcp#" + strings.Repeat("x", 500), "http"},

		{"a name of 33 bytes", longest + "x 80/tcp www", ""},
		{"no port", "http", ""},
		{"no port, but blanks", "http \t", ""},
		{"the port is left out", "http #80/tcp", ""},
		{"the name is left out", "#http 80/tcp www", ""},
		{"a port ahead of the name", "80/tcp http", ""},
		{"a port alone", "80/tcp", ""},
		{"the port third", "http www 80/tcp", ""},
		{"no name", "! 80/tcp www", ""},
		{"a name with a /", "ht/tp 80/tcp www", ""},
		{"no / and no protocol", "http 80", ""},
		{"no /", "http 80tcp", ""},
		{"a blank for the /", "http 80 tcp", ""},
		{"a blank ahead of the /", "http 80 /tcp", ""},
		{"a blank behind the /", "http 80/ tcp", ""},
		{"another sign for the /", "http 80\\tcp", ""},
		{"another sign for the / again", "http 80,tcp", ""},
		{"two /", "http 80//tcp", ""},
		{"a / at the end", "http 80/tcp/", ""},
		{"two protocols", "http 80/tcp/udp", ""},
		{"no number", "http /tcp", ""},
		{"the protocol first", "http tcp/80", ""},
		{"no protocol", "http 80/", ""},
		{"a / alone", "http /", ""},
		{"a digit in the protocol", "http 80/tcp6", ""},
		{"a - in the protocol", "http 80/udp-lite", ""},
		{"a protocol of 9 letters", "http 80/abcdefghi", ""},
		{"a 0 ahead of the number", "http 080/tcp", ""},
		{"a + ahead of the number", "http +80/tcp", ""},
		{"a number below 0", "http -80/tcp", ""},
		{"a letter behind the number", "http 80x/tcp", ""},
		{"a number that is none", "http 8.0/tcp", ""},
		{"a number to another base", "http 0x50/tcp", ""},
		{"a line of 513 bytes", "http 80/tcp" + strings.Repeat(" ", 502), ""},
		{"a line of 513 bytes with what a # leaves out", "http 80/tcp#" + strings.Repeat("x", 501), ""},
		{"a foreign byte", "http 80/tcp \x00", ""},
		{"a foreign byte behind a #", "http 80/tcp # \xc3\xa4", ""},
		{"nothing", "", ""},
	} {
		for _, end := range []string{"", "\n"} {
			checkRow(t, c.why, svctab.Parse([]byte(c.line+end)), c.names)
		}
	}
}

// checkRow holds a table against the one row with port 80 and protocol tcp that it should have, or none.
func checkRow(t *testing.T, why string, table *svctab.Table, names string) {
	t.Helper()
	rows, at80, wantPort := 0, "no", "no"
	if names != "" {
		rows, at80, wantPort = 1, names, "80"
	}
	if got := table.Len(); got != rows {
		t.Errorf("P7.1: %s: Len: %d, want %d", why, got, rows)
	}
	for _, proto := range []string{"", "tcp", "TCP", "Tcp"} {
		if got := named(t, table, 80, proto); got != at80 {
			t.Errorf("P7.1: %s: ByPort(80, %q): %q, want %q", why, proto, got, at80)
		}
		asked := strings.Fields(names)
		if names == "" {
			asked = []string{"http", "www"}
		}
		for _, name := range asked {
			if got := port(t, table, name, proto); got != wantPort {
				t.Errorf("P7.1: %s: ByName(%q, %q): %s, want %s", why, name, proto, got, wantPort)
			}
		}
	}
	for _, proto := range []string{"udp", "t", "tc", "tcpx", "tcp ", "/tcp", "80/tcp"} {
		if got := named(t, table, 80, proto) + port(t, table, "http", proto); got != "nono" {
			t.Errorf("P7.1: %s: of the protocol %q: %s", why, proto, got)
		}
	}
}

// TestBytes lays each byte within a name, an alias, a number and a protocol.
func TestBytes(t *testing.T) {
	const letters = "abcdefghijklmnopqrstuvwxyzABCDEFGHIJKLMNOPQRSTUVWXYZ"
	for b := range 256 {
		s := string([]byte{byte(b)})
		name, alias, number, proto := "", "", "", ""
		switch {
		case strings.Contains(letters, s):
			name, alias, proto = "x"+s+"y", "a x"+s+"y z", "a b"
		case strings.Contains("0123456789", s):
			name, alias, number = "x"+s+"y", "a x"+s+"y z", "a b"
		case strings.Contains("-_.", s):
			name, alias = "x"+s+"y", "a x"+s+"y z"
		case strings.Contains(" \t\r", s):
			alias, proto = "a x y z", "a y b"
		case b == '\n':
			name, alias, proto = "y", "a x", "a"
		case b == '#':
			alias, proto = "a x", "a"
		case b > 32 && b < 127:
			alias = "a z"
		}
		for body, want := range map[string]string{
			"x" + s + "y 7/udp":     name,
			"a 7/udp x" + s + "y z": alias,
			"a 7/x" + s + "y b":     proto,
		} {
			if got := named(t, parse(body), 7, ""); got != cmp.Or(want, "no") {
				t.Errorf("P7.1: %q: %q, want %q", body, got, cmp.Or(want, "no"))
			}
		}
		table := parse("a 4" + s + "2/udp b")
		n, _ := strconv.Atoi("4" + s + "2")
		if got := named(t, table, n, "udp"); got != cmp.Or(number, "no") || (table.Len() == 1) != (number != "") {
			t.Errorf("P7.1: byte %d in a number: %d rows, %q, want %q", b, table.Len(), got, cmp.Or(number, "no"))
		}
	}
}

// TestPorts: each number up to those of 6 digits, and some beyond.
func TestPorts(t *testing.T) {
	for n := range 100002 {
		table, want := parse("x "+strconv.Itoa(n)+"/udp"), "no"
		if 1 <= n && n <= 65535 {
			want = "x"
		}
		if got := named(t, table, n, "udp"); got != want || (table.Len() == 1) != (want == "x") {
			t.Fatalf("P7.1: the port %d: %d rows, %q", n, table.Len(), got)
		}
		if got, _ := table.ByName("x", ""); want == "x" && got != n || want == "no" && got != 0 {
			t.Fatalf("P7.1: the port %d: ByName: %d", n, got)
		}
	}
	for _, word := range []string{"00", "01", "065535", "0000000001", "65535.0", "65536", "131073", "655350", "999999999", "1000000000", "4294967297", "9223372036854775809", "18446744073709551617", strings.Repeat("1", 400), "-1", "-0", "+1", "1_0", "1e1", "0x1", ""} {
		if got := parse("x " + word + "/udp").Len(); got != 0 {
			t.Errorf("P7.1: the port %q: %d rows", word, got)
		}
	}
}

// TestLengths: names and protocols of all lengths around those that may be.
func TestLengths(t *testing.T) {
	for n := range 50 {
		x := strings.Repeat("x", n)
		isName, isProto := 1 <= n && n <= 32, 1 <= n && n <= 8
		if got := parse(x + " 1/udp").Len(); got == 1 != isName {
			t.Errorf("P7.1: a name of %d bytes: %d rows", n, got)
		}
		if got := port(t, parse("a 1/udp "+x), x, "udp"); got == "1" != isName {
			t.Errorf("P7.1: an alias of %d bytes: %s", n, got)
		}
		table := parse("a 1/" + x)
		if got := table.Len(); got == 1 != isProto {
			t.Errorf("P7.1: a protocol of %d bytes: %d rows", n, got)
		}
		if got := port(t, table, "a", strings.ToUpper(x)); got == "1" != isProto {
			t.Errorf("P7.1: a protocol of %d bytes: ByName: %s", n, got)
		}
		if got := named(t, table, 1, x); got == "a" != isProto {
			t.Errorf("P7.1: a protocol of %d bytes: ByPort: %s", n, got)
		}
	}
}

// several is a table whose rows share names, ports and protocols.
var several = []string{
	"# http 1/tcp",
	"http 2/",
	"http 80/TCP www Web ! x",
	"http 81/udp www",
	"HTTP 82/tcp",
	"web 80/udp Quic x",
	"http 80/sctp y",
	"x 83/tcp",
	"other 80/tcp z",
	"www 84/Sctp",
	"z 0/tcp",
	"y 1/tcp http",
	"last 65535/dccp longer",
}

func TestByName(t *testing.T) {
	table := parse(several...)
	if got := table.Len(); got != 10 {
		t.Errorf("P7.1: Len: %d", got)
	}
	for _, c := range []struct{ name, proto, want string }{
		{"http", "", "80"},
		{"http", "tcp", "80"},
		{"http", "TCP", "80"},
		{"http", "udp", "81"},
		{"http", "Udp", "81"},
		{"http", "sctp", "80"},
		{"http", "dccp", "no"},
		{"HTTP", "", "82"},
		{"HTTP", "tcp", "82"},
		{"HTTP", "udp", "no"},
		{"Http", "", "no"},
		{"www", "", "80"},
		{"www", "udp", "81"},
		{"www", "sctp", "84"},
		{"www", "SCTP", "84"},
		{"WWW", "", "no"},
		{"Web", "", "80"},
		{"Web", "udp", "no"},
		{"web", "", "80"},
		{"web", "udp", "80"},
		{"web", "tcp", "no"},
		{"Quic", "", "80"},
		{"Quic", "UDP", "80"},
		{"Quic", "tcp", "no"},
		{"x", "", "80"},
		{"x", "tcp", "80"},
		{"x", "udp", "80"},
		{"y", "", "80"},
		{"y", "tcp", "1"},
		{"y", "udp", "no"},
		{"z", "", "80"},
		{"z", "tcp", "80"},
		{"other", "tcp", "80"},
		{"longer", "", "65535"},
		{"longer", "DCCP", "65535"},
		{"longe", "", "no"},
		{"longer1", "", "no"},
		{"!", "", "no"},
		{"", "", "no"},
		{"", "tcp", "no"},
		{" http", "", "no"},
		{"http ", "", "no"},
		{"http.", "", "no"},
		{"http\n", "", "no"},
		{"http\x00", "", "no"},
		{"http www", "", "no"},
		{"80/tcp", "", "no"},
		{"#", "", "no"},
		{"\xff", "", "no"},
		{"\u212a", "", "no"},
		{"http", " ", "no"},
		{"http", "tcp ", "no"},
		{"http", "tcp\x00", "no"},
		{"http", "tc", "no"},
		{"http", "tcpp", "no"},
		{"http", "80", "no"},
		{"http", "*", "no"},
		{"http", "\xff", "no"},
		{"http", "\u017fctp", "no"},
		{"last", "tcp", "no"},
	} {
		if got := port(t, table, c.name, c.proto); got != c.want {
			t.Errorf("P7.1: ByName(%q, %q): %s, want %s", c.name, c.proto, got, c.want)
		}
	}
}

func TestByPort(t *testing.T) {
	table := parse(several...)
	for _, c := range []struct {
		port        int
		proto, want string
	}{
		{80, "", "http www Web x"},
		{80, "tcp", "http www Web x"},
		{80, "TCP", "http www Web x"},
		{80, "udp", "web Quic x"},
		{80, "uDP", "web Quic x"},
		{80, "sctp", "http y"},
		{80, "dccp", "no"},
		{81, "", "http www"},
		{81, "udp", "http www"},
		{81, "tcp", "no"},
		{82, "", "HTTP"},
		{83, "tcp", "x"},
		{84, "", "www"},
		{84, "sctp", "www"},
		{84, "SCTP", "www"},
		{84, "tcp", "no"},
		{1, "", "y http"},
		{1, "tcp", "y http"},
		{1, "udp", "no"},
		{2, "", "no"},
		{65535, "", "last longer"},
		{65535, "Dccp", "last longer"},
		{65534, "", "no"},
		{65536, "", "no"},
		{65536 + 80, "", "no"},
		{1<<32 + 80, "", "no"},
		{0, "", "no"},
		{0, "tcp", "no"},
		{-1, "", "no"},
		{-80, "tcp", "no"},
		{math.MaxInt, "", "no"},
		{math.MinInt, "", "no"},
		{math.MinInt + 80, "", "no"},
		{80, " ", "no"},
		{80, "tcp ", "no"},
		{80, "tcp\n", "no"},
		{80, "/tcp", "no"},
		{80, "tc", "no"},
		{80, "tcpp", "no"},
		{80, "*", "no"},
		{80, "\xff", "no"},
		{80, "\u017fctp", "no"},
	} {
		if got := named(t, table, c.port, c.proto); got != c.want {
			t.Errorf("P7.1: ByPort(%d, %q): %q, want %q", c.port, c.proto, got, c.want)
		}
	}
}

// TestManyAliases: ByPort answers all names of its row, however many.
func TestManyAliases(t *testing.T) {
	want := strings.TrimSpace("a " + strings.Repeat("b ", 252))
	table := parse("a 1/udp "+want[2:], "c 1/udp")
	if got := named(t, table, 1, ""); got != want {
		t.Errorf("P7.1: ByPort of a row of 253 names: %q", got)
	}
	if got := port(t, table, "b", "udp") + port(t, table, "c", ""); got != "11" {
		t.Errorf("P7.1: ByName of a row of 253 names: %s", got)
	}
}

// TestHuge: long tables are read and asked in no great time.
func TestHuge(t *testing.T) {
	const many = 200000
	var b strings.Builder
	for i := range many {
		fmt.Fprintf(&b, "s%d %d/udp all\nt%d %d/tcp all s%d\n", i, i%65535+1, i, i%65535+1, i)
	}
	table := svctab.Parse([]byte(b.String()))
	if got := table.Len(); got != 2*many {
		t.Fatalf("P7.1: Len: %d", got)
	}
	for i := range many {
		n := i%65535 + 1
		s := fmt.Sprintf("s%d", i)
		if got := port(t, table, s, "") + " " + port(t, table, s, "TCP"); got != fmt.Sprint(n, n) {
			t.Fatalf("P7.1: ByName of row %d: %s, want %d", i, got, n)
		}
		if got := named(t, table, n, "tcp"); got != fmt.Sprintf("t%d all s%d", n-1, n-1) {
			t.Fatalf("P7.1: ByPort of row %d: %q", i, got)
		}
	}
	if got := port(t, table, "all", "tcp") + named(t, table, 65535, ""); got != "1s65534 all" {
		t.Errorf("P7.1: the first row of many: %s", got)
	}
	for _, piece := range []string{"\n", " ", "#", "a", "a ", "/", "1/tcp ", "\x00", "\xff", "80", "a 1/tcp "} {
		if got := svctab.Parse(bytes.Repeat([]byte(piece), 1<<20)).Len(); got != 0 {
			t.Errorf("P0.1: Len of many %q: %d", piece, got)
		}
		long := strings.Repeat(piece, 1<<20)
		if got := port(t, table, long, "") + port(t, table, "all", long) + named(t, table, 1, long); got != "nonono" {
			t.Errorf("P0.1: many %q are asked for: %s", piece, got)
		}
	}
}

// TestNoTable: a nil table and those without a row answer nothing.
func TestNoTable(t *testing.T) {
	for why, table := range map[string]*svctab.Table{
		"nil":              nil,
		"a zero one":       {},
		"of nil":           svctab.Parse(nil),
		"of an empty body": svctab.Parse([]byte{}),
		"of spare room":    svctab.Parse([]byte("a 1/tcp")[:0]),
		"of a name":        parse("a"),
		"of foreign bytes": parse("a 1/tcp\x00"),
		"of rows left out": parse("# a 1/tcp", "#a 1/tcp"),
		"of no row at all": parse("! 1/tcp a", "a 1/", "a 0/tcp"),
	} {
		if got := table.Len(); got != 0 {
			t.Errorf("P7.1: a table %s: Len: %d", why, got)
		}
		for _, proto := range []string{"", "tcp", "TCP", "!"} {
			for _, name := range []string{"", "a", "!", longest} {
				if got := port(t, table, name, proto); got != "no" {
					t.Errorf("P7.1: a table %s: ByName(%q, %q): %s", why, name, proto, got)
				}
			}
			for _, n := range []int{math.MinInt, -1, 0, 1, 65535, math.MaxInt} {
				if got := named(t, table, n, proto); got != "no" {
					t.Errorf("P7.1: a table %s: ByPort(%d, %q): %q", why, n, proto, got)
				}
			}
		}
	}
	if svctab.Parse(nil) == nil {
		t.Error("P7.1: Parse(nil) is no table")
	}
}

// spoiled: what a list held, and then writes into it and its spare room.
func spoiled(list []string, _ bool) string {
	held := strings.Join(list, " ")
	list = list[:cap(list)]
	for i := range list {
		list[i] = "!"
	}
	return held
}

func TestOwnMemory(t *testing.T) {
	const body, room = "a 1/tcp b c\nd 1/udp a\ne 2/tcp", " f\nspare 3/tcp"
	all := []byte(body + room)
	table, other := svctab.Parse(all[:len(body)]), svctab.Parse(all[:len(body)])
	if string(all) != body+room {
		t.Errorf("P0.3: the body that was handed in, or its room: %q", all)
	}
	copy(all, bytes.Repeat([]byte("!"), len(all)))
	for range 3 {
		for _, asked := range []*svctab.Table{table, other} {
			if got := fmt.Sprintf("%d; %s; %s; %s", asked.Len(), port(t, asked, "c", ""), port(t, asked, "a", "udp"), port(t, asked, "f", "")); got != "3; 1; 1; no" {
				t.Errorf("P0.3: what the table says is shared: %s", got)
			}
			kept, _ := asked.ByPort(1, "")
			for _, c := range []struct{ proto, want string }{{"", "a b c"}, {"tcp", "a b c"}, {"udp", "d a"}} {
				if got := spoiled(asked.ByPort(1, c.proto)); got != c.want {
					t.Errorf("P0.3: ByPort(1, %q): %q, want %q", c.proto, got, c.want)
				}
			}
			if got := spoiled(asked.ByPort(2, "")); got != "e" {
				t.Errorf("P0.3: ByPort(2): %q", got)
			}
			if got := strings.Join(kept, " "); got != "a b c" {
				t.Errorf("P0.3: two answers share memory: %q", got)
			}
		}
	}
}

// row is one of the second reading.
type row struct {
	names []string
	port  int
	proto string
}

// plain reads a table of known words another way: the maps say what each of them is.
func plain(body string, isName map[string]bool, places map[string]row) []row {
	var found []row
	for line := range strings.SplitSeq(body, "\n") {
		line, _, _ = strings.Cut(line, "#")
		words := strings.Fields(line)
		if len(words) < 2 || !isName[words[0]] || places[words[1]].port == 0 {
			continue
		}
		r := places[words[1]]
		for i, w := range words {
			if i != 1 && isName[w] {
				r.names = append(r.names, w)
			}
		}
		found = append(found, r)
	}
	return found
}

// byName goes through the rows of the second reading.
func byName(found []row, name, proto string) string {
	for _, r := range found {
		if slices.Contains(r.names, name) && (proto == "" || r.proto == proto) {
			return strconv.Itoa(r.port)
		}
	}
	return "no"
}

// byPort goes through them too.
func byPort(found []row, n int, proto string) string {
	for _, r := range found {
		if r.port == n && (proto == "" || r.proto == proto) {
			return strings.Join(r.names, " ")
		}
	}
	return "no"
}

// agree holds what Parse makes of body against its second reading.
func agree(t *testing.T, body string, isName map[string]bool, places map[string]row) {
	t.Helper()
	table, found := svctab.Parse([]byte(body)), plain(body, isName, places)
	if got := table.Len(); got != len(found) {
		t.Fatalf("P7.1: %q: Len: %d, want %d", body, got, len(found))
	}
	for _, proto := range []string{"", "tcp", "udp", "x"} {
		for name := range isName {
			if got, want := port(t, table, name, strings.ToUpper(proto)), byName(found, name, proto); got != want {
				t.Fatalf("P7.1: %q: ByName(%q, %q): %s, want %s", body, name, proto, got, want)
			}
		}
		for _, at := range places {
			if got, want := named(t, table, at.port, strings.ToUpper(proto)), byPort(found, at.port, proto); got != want {
				t.Fatalf("P7.1: %q: ByPort(%d, %q): %q, want %q", body, at.port, proto, got, want)
			}
		}
	}
}

// TestShortTables: all texts of a few words.
func TestShortTables(t *testing.T) {
	isName := map[string]bool{"a": true, "A": true, "7": true, "!": false}
	places := map[string]row{"7/tcp": {port: 7, proto: "tcp"}, "7/UDP": {port: 7, proto: "udp"}, "8/tcp": {port: 8, proto: "tcp"}}
	pieces := []string{"a", "A", "7", "!", "7/tcp", "7/UDP", "8/tcp", "#", "\n"}
	var grow func(body string, left int)
	grow = func(body string, left int) {
		agree(t, body, isName, places)
		for i := 0; left > 0 && i < len(pieces); i++ {
			grow(body+" "+pieces[i], left-1)
		}
	}
	grow("", 5)
	grow("a 7/tcp A\n", 4)
	grow("! 7/tcp\nA 8/tcp\na 7/UDP", 4)
}

// TestLongTables: many rows of few names, ports and protocols, in orders that a short rule makes.
func TestLongTables(t *testing.T) {
	isName, places := map[string]bool{"!": false, "#": false, "a/b": false}, map[string]row{}
	names, seconds := []string{"!", "#", "a/b"}, []string{"0/tcp", "1/", "65536/udp", "01/tcp", "s0"}
	for i := range 12 {
		name := fmt.Sprintf("%c%d", "sS"[i%2], i/2)
		isName[name] = true
		names = append(names, name)
		for _, proto := range []string{"tcp", "Udp"} {
			second := fmt.Sprintf("%d/%s", i*5000+1, proto)
			places[second] = row{port: i*5000 + 1, proto: strings.ToLower(proto)}
			seconds = append(seconds, second)
		}
	}
	for seed := range uint32(200) {
		n := seed
		next := func(most int) int {
			n = n*1664525 + 1013904223
			return int(n>>16) % most
		}
		var b strings.Builder
		for range next(100) {
			b.WriteString(names[next(len(names))] + " " + seconds[next(len(seconds))])
			for range next(5) {
				b.WriteString(" " + names[next(len(names))])
			}
			b.WriteString("\n")
		}
		agree(t, b.String(), isName, places)
	}
}
