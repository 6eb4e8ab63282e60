package resolv_test

import (
	"bytes"
	"fmt"
	"regexp"
	"strconv"
	"strings"
	"testing"

	"concierge/addr"
	"concierge/api"
	"concierge/resolv"
)

// label is the longest one that may be, and longest a name of 253 bytes.
var (
	label   = strings.Repeat("a", 63)
	longest = label + "." + label + "." + label + "." + label[:61]
)

// usual: what tell tells of settings as long as nothing says else.
const usual = "[] [] 1 5 2 false"

// tell tells settings in one text: servers as they are printed, search names, and the options' four.
func tell(s api.Setup) string {
	servers := []string{}
	for _, a := range s.Servers {
		servers = append(servers, addr.Print(a))
	}
	return fmt.Sprintf("%q %q %s", servers, s.Search, options(s))
}

// options tells the options' settings alone.
func options(s api.Setup) string {
	return fmt.Sprint(s.Dots, s.Timeout, s.Attempts, s.Rotate)
}

// servers tells the servers of settings alone, with blanks between.
func servers(s api.Setup) string {
	var told []string
	for _, a := range s.Servers {
		told = append(told, addr.Print(a))
	}
	return strings.Join(told, " ")
}

func expect(t *testing.T, body, want string) {
	t.Helper()
	for _, end := range []string{"", "\n"} {
		if got := tell(resolv.Parse([]byte(body + end))); got != want {
			t.Errorf("P15.1: %.300q: %s, want %s", body+end, got, want)
		}
	}
}

// TestUsual: texts that say nothing.
func TestUsual(t *testing.T) {
	for _, body := range []string{
		"", " ", "\n", "\r", "\t\n\n \n", "#", "# nameserver 1.2.3.4", "#nameserver 1.2.3.4\n#search a\n#options rotate",
		"nameserver", "search", "options", "nameserver\nsearch\noptions", "nameserver # 1.2.3.4", "search #a", "options #rotate ndots:0",
		"domain example", "sortlist 1.2.3.4", "lookup file bind", "x", "1.2.3.4", "a", "rotate", "ndots:0", "timeout:7", "attempts:1", "\x00", "\xff",
	} {
		expect(t, body, usual)
	}
	for why, body := range map[string][]byte{"nil": nil, "empty": {}, "spare room": []byte("options rotate")[:0]} {
		if got := tell(resolv.Parse(body)); got != usual {
			t.Errorf("P15.1: %s: %s", why, got)
		}
	}
}

// TestFirstWords: the first word of a line alone says what it is, as it stands.
func TestFirstWords(t *testing.T) {
	const behind = " 1.2.3.4 a rotate"
	for first, want := range map[string]string{
		"nameserver": `["1.2.3.4"] [] 1 5 2 false`,
		"search":     `[] ["1.2.3.4" "a" "rotate"] 1 5 2 false`,
		"options":    `[] [] 1 5 2 true`,
	} {
		expect(t, first+behind, want)
		expect(t, "\t "+first+"\t\r "+strings.ReplaceAll(behind, " ", "\t \r"), want)
		for _, other := range []string{
			strings.ToUpper(first), strings.ToUpper(first[:1]) + first[1:], first[:len(first)-1], first + "s", first + ":", first + "=", first + ".", "-" + first, ";" + first,
			"x " + first, "x\n#" + first, "# " + first, first + "#", first + "\x00", first + "\xc3\xa4", first + "x", "'" + first + "'",
		} {
			expect(t, other+behind, usual)
		}
	}
}

// TestLines: which lines are told is as text.Lines says.
func TestLines(t *testing.T) {
	for _, line := range []string{"nameserver 1.2.3.4", "search a", "options rotate"} {
		said := tell(resolv.Parse([]byte(line)))
		if said == usual {
			t.Fatalf("P15.1: %q says nothing", line)
		}
		room := strings.Repeat(" ", 512-len(line))
		filler := strings.Repeat("x", 511-len(line))
		for told, want := range map[string]string{
			line + room:                    said,
			line + room + " ":              usual,
			room + line:                    said,
			" " + room + line:              usual,
			line + "#" + filler:            said,
			line + "#" + filler + "x":      usual,
			line + " # \x1f":               usual,
			line + " # \x7f":               usual,
			line + "\x0b":                  usual,
			line + " \xc2\xa0":             usual,
			"\x00\n" + line + "\n\xff":     said,
			"\xef\xbb\xbf" + line:          usual,
			line + room + " \n" + line:     said,
			"# x\n\n\t\n" + line + "\n\nx": said,
		} {
			expect(t, told, want)
		}
	}
}

func TestServers(t *testing.T) {
	for body, want := range map[string]string{
		"nameserver 1.2.3.4":                                          "1.2.3.4",
		"nameserver 0.0.0.0":                                          "0.0.0.0",
		"nameserver ::":                                               "::",
		"nameserver FE80::A":                                          "fe80::a",
		"nameserver ::ffff:1.2.3.4":                                   "::ffff:102:304",
		"nameserver 1:2:3:4:5:6:7:8":                                  "1:2:3:4:5:6:7:8",
		"nameserver 1.2.3.4 5.6.7.8":                                  "1.2.3.4",
		"nameserver 1.2.3.4 !":                                        "1.2.3.4",
		"nameserver 1.2.3.4#53":                                       "1.2.3.4",
		"nameserver 1.1.1.1\nnameserver 2.2.2.2":                      "1.1.1.1 2.2.2.2",
		"nameserver 2.2.2.2\nx\nnameserver 1.1.1.1":                   "2.2.2.2 1.1.1.1",
		"nameserver 1.1.1.1\nnameserver ::1\nnameserver 3.3.3.3":      "1.1.1.1 ::1 3.3.3.3",
		"nameserver 1.1.1.1\nnameserver 1.1.1.1\nnameserver 1.1.1.1":  "1.1.1.1 1.1.1.1 1.1.1.1",
		"nameserver x\nnameserver 1.1.1.1\nnameserver\nnameserver ::": "1.1.1.1 ::",

		"nameserver":            "",
		"nameserver x":          "",
		"nameserver x 1.2.3.4":  "",
		"nameserver # 1.2.3.4":  "",
		"nameserver 1.2.3":      "",
		"nameserver 1.2.3.4.5":  "",
		"nameserver 1.2.3.4.":   "",
		"nameserver 1.2.3.256":  "",
		"nameserver 01.2.3.4":   "",
		"nameserver 1.2.3.4:53": "",
		"nameserver [::1]":      "",
		"nameserver [::1]:53":   "",
		"nameserver fe80::1%1":  "",
		"nameserver ::1/128":    "",
		"nameserver :::":        "",
		"nameserver localhost":  "",
		"nameserver1.2.3.4":     "",
		"nameserver=1.2.3.4":    "",
		"nameserver\n1.2.3.4":   "",
		"1.2.3.4 nameserver":    "",
		"options 1.2.3.4":       "",
		"search 1.2.3.4":        "",
	} {
		got := resolv.Parse([]byte(body))
		if servers(got) != want {
			t.Errorf("P15.1: %q: servers %q, want %q", body, servers(got), want)
		}
		if options(got) != "1 5 2 false" {
			t.Errorf("P15.1: %q: options %s", body, options(got))
		}
	}
}

// TestMostServers: the first 3 addresses are servers, however many lines say none.
func TestMostServers(t *testing.T) {
	var body strings.Builder
	var all []string
	for i := range 100 {
		want := strings.Join(all[:min(i, 3)], " ")
		if got := resolv.Parse([]byte(body.String())); servers(got) != want {
			t.Errorf("P15.1: of %d servers: %q, want %q", i, servers(got), want)
		}
		all = append(all, fmt.Sprintf("10.0.0.%d", i))
		body.WriteString("nameserver none\nnameserver\n#nameserver 9.9.9.9\nnameserver " + all[i] + " 8.8.8.8\n")
	}
}

func TestSearch(t *testing.T) {
	for body, want := range map[string]string{
		"search a":                                        `["a"]`,
		"search a b":                                      `["a" "b"]`,
		"search b a":                                      `["b" "a"]`,
		"search Gate.EXAMPLE Example.":                    `["gate.example" "example"]`,
		"search a a A a.":                                 `["a" "a" "a" "a"]`,
		"search search options rotate":                    `["search" "options" "rotate"]`,
		"search -_0 1.2.3.4":                              `["-_0" "1.2.3.4"]`,
		"search a b c d e f":                              `["a" "b" "c" "d" "e" "f"]`,
		"search a b c d e f g":                            `["a" "b" "c" "d" "e" "f"]`,
		"search ! a .b b c..d d e f. :: g ":               `["a" "b" "d" "e" "f" "g"]`,
		"search a b c d e ! .. f g":                       `["a" "b" "c" "d" "e" "f"]`,
		"search a#b c":                                    `["a"]`,
		"search " + label + " b":                          `["` + label + `" "b"]`,
		"search " + label + "a b":                         `["b"]`,
		"search b " + strings.ToUpper(longest) + ".":      `["b" "` + longest + `"]`,
		"search b " + longest + "a c":                     `["b" "c"]`,
		"search " + strings.Repeat("! ", 200) + "a b":     `["a" "b"]`,
		"search " + strings.Repeat("a ", 200) + "b":       `["a" "a" "a" "a" "a" "a"]`,
		"search a\nsearch b":                              `["b"]`,
		"search a b c\nsearch d":                          `["d"]`,
		"search a\nsearch b c\n":                          `["b" "c"]`,
		"search a\n#search b":                             `["a"]`,
		"search a\nSearch b":                              `["a"]`,
		"search a\nsearch b \x00":                         `["a"]`,
		"search a\nsearch b" + strings.Repeat(" ", 505):   `["a"]`,
		"search a\noptions ndots:3 b\nnameserver 1.2.3.4": `["a"]`,
		"search !\nsearch a":                              `["a"]`,

		"search":              `[]`,
		"search .":            `[]`,
		"search ! .. a..b":    `[]`,
		"search # a":          `[]`,
		"search a\nsearch":    `[]`,
		"search a\nsearch #b": `[]`,
		"search a\nsearch !":  `[]`,
		"searcha":             `[]`,
		"search:a":            `[]`,
		"search\na":           `[]`,
		"domain a":            `[]`,
	} {
		if got := resolv.Parse([]byte(body)); fmt.Sprintf("%q", got.Search) != want {
			t.Errorf("P15.1: %.300q: Search %q, want %s", body, got.Search, want)
		}
	}
}

func TestOptions(t *testing.T) {
	for words, want := range map[string]string{
		"ndots:0":                           "0 5 2 false",
		"ndots:15":                          "15 5 2 false",
		"timeout:1":                         "1 1 2 false",
		"timeout:30":                        "1 30 2 false",
		"attempts:1":                        "1 5 1 false",
		"attempts:5":                        "1 5 5 false",
		"rotate":                            "1 5 2 true",
		"rotate rotate":                     "1 5 2 true",
		"rotate timeout:3 ndots:2":          "2 3 2 true",
		"attempts:4 timeout:3 ndots:2":      "2 3 4 false",
		"ndots:2 ndots:3":                   "3 5 2 false",
		"ndots:3 ndots:2 ndots:16":          "2 5 2 false",
		"ndots:3 ndots:0":                   "0 5 2 false",
		"ndots:3 ndots:1":                   "1 5 2 false",
		"timeout:9 timeout:0 timeout:31":    "1 9 2 false",
		"timeout:9 timeout:5":               "1 5 2 false",
		"attempts:3 attempts:6 attempts:0":  "1 5 3 false",
		"attempts:3 attempts:2":             "1 5 2 false",
		"x ndots:2 debug timeout:2 edns0":   "2 2 2 false",
		"ndots:2 timeout:2#attempts:3":      "2 2 2 false",
		"rotate norotate no-rotate -rotate": "1 5 2 true",

		"ndots":                    "1 5 2 false",
		"ndots:":                   "1 5 2 false",
		"ndots: 3":                 "1 5 2 false",
		"ndots :3":                 "1 5 2 false",
		"ndots 3":                  "1 5 2 false",
		"ndots=3":                  "1 5 2 false",
		"ndots::3":                 "1 5 2 false",
		"ndots:3:":                 "1 5 2 false",
		"ndots:3:3":                "1 5 2 false",
		"ndots:3,rotate":           "1 5 2 false",
		":3 :":                     "1 5 2 false",
		"Ndots:3 NDOTS:3":          "1 5 2 false",
		"dots:3 xndots:3 ndotss:3": "1 5 2 false",
		"Timeout:3 timeouts:3":     "1 5 2 false",
		"Attempts:3 attempt:3":     "1 5 2 false",
		"Rotate ROTATE rotat":      "1 5 2 false",
		"rotate: rotate:1 rotates": "1 5 2 false",
		"rotate:true :rotate":      "1 5 2 false",
		"timeout:rotate":           "1 5 2 false",
		"#rotate":                  "1 5 2 false",
	} {
		expect(t, "options "+words, "[] [] "+want)
		expect(t, "options x\noptions\noptions "+strings.ReplaceAll(words, " ", "\t"), "[] [] "+want)
	}
}

// TestOptionLines: of all lines of options the last word of each kind counts.
func TestOptionLines(t *testing.T) {
	expect(t, "options ndots:3 timeout:4 attempts:5 rotate\noptions", "[] [] 3 4 5 true")
	expect(t, "options ndots:3 timeout:4 attempts:5 rotate\noptions ndots:2", "[] [] 2 4 5 true")
	expect(t, "options ndots:3\noptions timeout:4\noptions attempts:5\noptions rotate", "[] [] 3 4 5 true")
	expect(t, "options ndots:3\noptions ndots:16\noptions ndots:x", "[] [] 3 5 2 false")
	expect(t, "options timeout:9 timeout:8\nsearch timeout\noptions timeout:7 timeout:31", `[] ["timeout"] 1 7 2 false`)
	expect(t, "options rotate\nrotate\nOptions ndots:0\n#options ndots:0\noptions ndots:0 \x01", "[] [] 1 5 2 true")
}

// TestNumbers: each kind with all numbers near its bounds, and ways to write them that are none.
func TestNumbers(t *testing.T) {
	for _, c := range []struct {
		kind        string
		least, most int
		read        func(api.Setup) int
		usual       int
	}{
		{"ndots", 0, 15, func(s api.Setup) int { return s.Dots }, 1},
		{"timeout", 1, 30, func(s api.Setup) int { return s.Timeout }, 5},
		{"attempts", 1, 5, func(s api.Setup) int { return s.Attempts }, 2},
	} {
		for n := -40; n <= 400; n++ {
			want := c.usual
			if c.least <= n && n <= c.most {
				want = n
			}
			got := resolv.Parse([]byte("options " + c.kind + ":" + strconv.Itoa(n)))
			if c.read(got) != want {
				t.Errorf("P15.1: %s:%d: %d, want %d", c.kind, n, c.read(got), want)
			}
		}
		for _, s := range []string{
			"03", "003", "00", "+3", "-3", "-0", "3.", "3.0", "3s", "0x3", "3e0", "1_0", "x", "\u0663", "3\x00",
			"999999999", "1000000003", "4294967299", "18446744073709551619", "340282366920938463463374607431768211459", strings.Repeat("0", 400) + "3", strings.Repeat("3", 400),
		} {
			expect(t, "options "+c.kind+":"+s, usual)
		}
	}
}

// TestTogether: lines of all kinds in any order.
func TestTogether(t *testing.T) {
	lines := []string{"nameserver ::1 x", "# nothing", "search Gate.Example. b", "options timeout:2 rotate", "domain c", "options ndots:4 attempts:1"}
	for range lines {
		lines = append(lines[1:], lines[0])
		expect(t, strings.Join(lines, "\n"), `["::1"] ["gate.example" "b"] 4 2 1 true`)
	}
}

// The chapter's words another way: a second reading, apart from the program's.
var (
	isOption = regexp.MustCompile(`\A(?:(ndots):([0-9]|1[0-5])|(timeout):([1-9]|[12][0-9]|30)|(attempts):([1-5])|rotate)\z`)
	isName   = regexp.MustCompile(`\A[A-Za-z0-9_-]{1,63}(\.[A-Za-z0-9_-]{1,63})*\.?\z`)
	isOdd    = regexp.MustCompile(`[^ -~\t\r]`)
	isGap    = regexp.MustCompile(`[ \t\r]+`)
)

// plain: the settings of a body; what of it is an address, package addr says.
func plain(body string) api.Setup {
	s := api.Setup{Dots: 1, Timeout: 5, Attempts: 2}
	for line := range strings.SplitSeq(body, "\n") {
		if len(line) > 512 || isOdd.MatchString(strings.ToValidUTF8(line, "\x00")) {
			continue
		}
		line, _, _ = strings.Cut(line, "#")
		words := strings.Split(strings.Trim(isGap.ReplaceAllString(line, " "), " "), " ")
		if words[0] == "search" {
			s.Search = nil
		}
		for i, w := range words[1:] {
			plainWord(&s, words[0], i, w)
		}
	}
	return s
}

// plainWord: the settings with what the word at that place of a line says.
func plainWord(s *api.Setup, first string, at int, w string) {
	option := isOption.FindStringSubmatch(w)
	a, isAddr := addr.Parse(w)
	switch {
	case first == "nameserver" && at == 0 && isAddr && len(s.Servers) < 3:
		s.Servers = append(s.Servers, a)
	case first == "search" && isName.MatchString(w) && len(strings.TrimSuffix(w, ".")) <= 253 && len(s.Search) < 6:
		s.Search = append(s.Search, strings.ToLower(strings.TrimSuffix(w, ".")))
	case first == "options" && w == "rotate":
		s.Rotate = true
	case first == "options" && option != nil:
		n, _ := strconv.Atoi(option[2] + option[4] + option[6])
		switch option[1] + option[3] + option[5] {
		case "ndots":
			s.Dots = n
		case "timeout":
			s.Timeout = n
		default:
			s.Attempts = n
		}
	}
}

// agree holds what Parse makes of body against its second reading.
func agree(t *testing.T, body string) {
	t.Helper()
	if got, want := tell(resolv.Parse([]byte(body))), tell(plain(body)); got != want {
		t.Fatalf("P15.1: %q: %s, want %s", body, got, want)
	}
}

// TestShortTexts: all texts of a few words.
func TestShortTexts(t *testing.T) {
	pieces := []string{"nameserver", "search", "options", "1.2.3.4", "A.", "ndots:3", "rotate", "#", "\n"}
	var grow func(body string, left int)
	grow = func(body string, left int) {
		agree(t, body)
		for i := 0; left > 0 && i < len(pieces); i++ {
			grow(body+" "+pieces[i], left-1)
		}
	}
	grow("", 5)
	grow("search b\noptions ndots:2 timeout:3\nnameserver ::1\n", 4)
	grow("nameserver ::1\nnameserver 5.6.7.8\nsearch b c d e f\nsearch b c d e f", 4)
}

// TestBytes lays each byte at each place of settings, and between their bytes.
func TestBytes(t *testing.T) {
	for _, body := range []string{"nameserver ::1\n", "search A. b\n", "options ndots:4 rotate\n", "options timeout:25 attempts:3"} {
		for at := range len(body) + 1 {
			for b := range 256 {
				s := string([]byte{byte(b)})
				agree(t, body[:at]+s+body[at:])
				agree(t, body[:at]+s+body[min(at+1, len(body)):])
			}
		}
	}
}

// TestLongTexts: many lines of words of all kinds, in orders that a short rule makes.
func TestLongTexts(t *testing.T) {
	words := []string{
		"1.2.3.4", "5.6.7.8", "::1", "1.2.3", "a", "B", "c.d.", "E.f", "g", "h", "!", "..", "#", "rotate", "Rotate", "ndots:", "timeout:30",
		"ndots:0", "ndots:7", "ndots:15", "ndots:16", "ndots:07", "timeout:0", "timeout:1", "timeout:29", "timeout:31", "attempts:0", "attempts:1", "attempts:5", "attempts:6",
	}
	firsts := []string{"nameserver", "search", "options", "nameserver", "search", "options", "domain", "#options", "Search"}
	for seed := range uint32(3000) {
		n := seed
		next := func(most int) int {
			n = n*1664525 + 1013904223
			return int(n>>16) % most
		}
		var b strings.Builder
		for range next(20) {
			b.WriteString(firsts[next(len(firsts))])
			for range next(12) {
				b.WriteString(" " + words[next(len(words))])
			}
			b.WriteString("\n")
		}
		agree(t, b.String())
	}
}

// TestHuge: long texts are read in no great time.
func TestHuge(t *testing.T) {
	const many = 1 << 18
	for line, want := range map[string]string{
		"nameserver 1.2.3.4\n":                `["1.2.3.4" "1.2.3.4" "1.2.3.4"] [] 1 5 2 false`,
		"nameserver ::x\n":                    usual,
		"search a b c d e f g h\n":            `[] ["a" "b" "c" "d" "e" "f"] 1 5 2 false`,
		"options ndots:3 rotate attempts:1\n": `[] [] 3 5 1 true`,
		"options ":                            usual,
		"nameserver ":                         usual,
		"search":                              usual,
		"\n":                                  usual,
		"ndots:3":                             usual,
		":":                                   usual,
		"#":                                   usual,
		"\x00":                                usual,
		"\xff":                                usual,
	} {
		if got := tell(resolv.Parse(bytes.Repeat([]byte(line), many))); got != want {
			t.Errorf("P15.1: many %q: %s, want %s", line, got, want)
		}
	}
	body := strings.Repeat("options ndots:3\nsearch a\nnameserver ::\n", many) + "options ndots:2\nsearch b\nnameserver ::1"
	if got := tell(resolv.Parse([]byte(body))); got != `["::" "::" "::"] ["b"] 2 5 2 false` {
		t.Errorf("P15.1: lines behind many: %s", got)
	}
}

// spoil writes into a list and its spare room.
func spoil(list []string) {
	list = list[:cap(list)]
	for i := range list {
		list[i] = "!"
	}
}

func TestOwnMemory(t *testing.T) {
	const body, room = "nameserver 1.2.3.4\nsearch a b c\noptions ndots:3\nnameserver ::1", "\nsearch spare room"
	const want = `["1.2.3.4" "::1"] ["a" "b" "c"] 3 5 2 false`
	all := []byte(body + room)
	kept, other, spoiled := resolv.Parse(all[:len(body)]), resolv.Parse(all[:len(body)]), resolv.Parse(all[:len(body)])
	if string(all) != body+room {
		t.Errorf("P0.3: the body that was handed in, or its room: %q", all)
	}
	copy(all, bytes.Repeat([]byte("!"), len(all)))
	spoil(spoiled.Servers)
	if got := fmt.Sprintf("%q", spoiled.Search); got != `["a" "b" "c"]` {
		t.Errorf("P0.3: two lists of an answer share memory: %s", got)
	}
	spoil(spoiled.Search)
	for _, got := range []api.Setup{kept, other, resolv.Parse([]byte(body))} {
		if tell(got) != want {
			t.Errorf("P0.3: what was answered is shared: %s", tell(got))
		}
	}
}

// TestAgain: what is answered hangs on what is handed in alone.
func TestAgain(t *testing.T) {
	bodies := []string{"", "nameserver 1.2.3.4\nnameserver ::1\nnameserver ::2\nnameserver ::3", "search a b", "search", "options rotate ndots:0 timeout:30 attempts:5", "options"}
	var first []string
	for _, body := range bodies {
		first = append(first, tell(resolv.Parse([]byte(body))))
	}
	for range 3 {
		for i := range bodies {
			for j := range bodies {
				resolv.Parse([]byte(bodies[j]))
				if got := tell(resolv.Parse([]byte(bodies[i]))); got != first[i] {
					t.Errorf("P0.5: %q behind %q: %s, want %s", bodies[i], bodies[j], got, first[i])
				}
			}
		}
	}
}
