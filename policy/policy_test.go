package policy_test

import (
	"bytes"
	"errors"
	"fmt"
	"math"
	"regexp"
	"slices"
	"strings"
	"testing"

	"concierge/api"
	"concierge/outcome"
	"concierge/policy"
)

// tell tells what Parse answers in one text: the steps, or the place of what is wrong. It faults what no Parse may answer.
func tell(t *testing.T, body string) string {
	t.Helper()
	p, err := policy.Parse([]byte(body))
	if err == nil {
		return fmt.Sprint(p.Steps)
	}
	e, ok := err.(*api.TextError)
	if !ok || e == nil || e.Err != api.BadText {
		t.Errorf("P10.1: Parse(%q): %T, %v", body, err, err)
		return ""
	}
	if fmt.Sprint(p) != fmt.Sprint(policy.Policy{}) {
		t.Errorf("P10.1: Parse(%q): an error, and %v", body, p)
	}
	return fmt.Sprint(e.Line, " ", e.Col)
}

func expect(t *testing.T, promise, got, want string) {
	t.Helper()
	if got != want {
		t.Errorf("%s: got %s, want %s", promise, got, want)
	}
}

func TestDatabases(t *testing.T) {
	for body, want := range map[string]string{
		"":                         "[[] [] [] [] []]",
		"\n \n\t\r\n# hosts: a\n":  "[[] [] [] [] []]",
		"hosts: a":                 "[[] [{a [1 2 2 2]}] [] [] []]",
		"addrs: a":                 "[[] [] [{a [1 2 2 2]}] [] []]",
		"services: a":              "[[] [] [] [{a [1 2 2 2]}] []]",
		"ports: a\n":               "[[] [] [] [] [{a [1 2 2 2]}]]",
		"ports: d\nhosts: a b\r\n": "[[] [{a [1 2 2 2]} {b [1 2 2 2]}] [] [] [{d [1 2 2 2]}]]",
		"services: c\naddrs: b\nports: d\nhosts: a": "[[] [{a [1 2 2 2]}] [{b [1 2 2 2]}] [{c [1 2 2 2]}] [{d [1 2 2 2]}]]",
		"\n\n\thosts:\ta # b [x]\n\n# addrs: x\n":   "[[] [{a [1 2 2 2]}] [] [] []]",
		"hosts: a a a": "[[] [{a [1 2 2 2]} {a [1 2 2 2]} {a [1 2 2 2]}] [] [] []]",
	} {
		expect(t, fmt.Sprintf("P10.1 Parse(%q)", body), tell(t, body), want)
	}
}

// TestUntold: what text.Lines doesn't tell is no part of a policy, but counts as a line.
func TestUntold(t *testing.T) {
	for _, untold := range []string{
		"hosts: b \x00", "hosts: b\x7f", "x \xff", "addrs: # \x80", "x" + strings.Repeat(" ", 512), "hosts: b #" + strings.Repeat("x", 503),
	} {
		expect(t, fmt.Sprintf("P10.1 behind %.20q", untold), tell(t, untold+"\nhosts: a"), "[[] [{a [1 2 2 2]}] [] [] []]")
		expect(t, fmt.Sprintf("P10.1 ahead of %.20q", untold), tell(t, "hosts: a\n"+untold+"\n"), "[[] [{a [1 2 2 2]}] [] [] []]")
		expect(t, fmt.Sprintf("P10.1 a line behind %.20q", untold), tell(t, untold+"\n\nhosts: a A"), "3 3")
	}
	longest := "hosts: a" + strings.Repeat(" ", 503) + "b"
	expect(t, "P10.1 a line of 512 bytes", tell(t, longest), "[[] [{a [1 2 2 2]} {b [1 2 2 2]}] [] [] []]")
}

func TestNoDatabase(t *testing.T) {
	for _, word := range []string{
		"host:", "hosts", "hosts::", ":hosts", "Hosts:", "HOSTS:", "addr:", "addrs", "Addrs:", "service:", "Services:", "port:", "ports", "PORTS:",
		":", "1", "0", "a", "hosts:a", "hosts:files", "[hosts:]", "[", "]", "[SUCCESS=return]", "SUCCESS=return", "hosts:hosts:", "hostsaddrs:", strings.Repeat("h", 490),
	} {
		for _, behind := range []string{"", " a", " A", " a [", " [SUCCESS=return]"} {
			expect(t, fmt.Sprintf("P10.1 %.20q", word), tell(t, word+behind), "1 1")
			expect(t, fmt.Sprintf("P10.1 ports behind it: %.20q", word), tell(t, "\nports: a\n"+word+behind+"\naddrs:"), "3 1")
		}
	}
	expect(t, "P10.1 a blank ahead of the :", tell(t, "hosts : a"), "1 1")
}

func TestDatabaseTwice(t *testing.T) {
	for _, word := range []string{"hosts:", "addrs:", "services:", "ports:"} {
		for _, behind := range []string{"", " b", " a", " B", " b ["} {
			expect(t, "P10.1 twice "+word, tell(t, word+" a\n"+word+behind), "2 1")
			expect(t, "P10.1 far behind "+word, tell(t, "#\n"+word+" a\n\n\r\n"+word+behind+"\nx"), "5 1")
		}
		expect(t, "P10.1 the first is wrong "+word, tell(t, word+" A\n"+word+" b"), "1 2")
		expect(t, "P10.1 twice in a line "+word, tell(t, word+" a "+word+" b"), "1 3")
		expect(t, "P10.1 without a step "+word, tell(t, "\n\n "+word+" # a"), "3 1")
	}
	expect(t, "P10.1 all four, and one again", tell(t, "hosts: a\naddrs: a\nservices: a\nports: a\nservices: a"), "5 1")
	expect(t, "P10.1 the first wrong line", tell(t, "hosts: a\naddrs: a []\nservices:\nx"), "2 3")
}

// TestSources lays each byte as a source, first, last, and within one.
func TestSources(t *testing.T) {
	for b := range 256 {
		s := string([]byte{byte(b)})
		if strings.Contains("\n\r\t #", s) || b < 32 || b >= 127 {
			continue
		}
		ok := strings.Contains("abcdefghijklmnopqrstuvwxyz0123456789-", s)
		for _, source := range []string{s, s + "a", "a" + s, "a" + s + "a"} {
			want, behind := "1 2", "1 3"
			if ok {
				want = "[[] [{" + source + " [1 2 2 2]}] [] [] []]"
				behind = "[[] [{b [1 2 2 2]} {" + source + " [1 2 2 2]}] [] [] []]"
			}
			expect(t, fmt.Sprintf("P10.1 the source %q", source), tell(t, "hosts: "+source), want)
			if !strings.HasPrefix(source, "[") {
				expect(t, fmt.Sprintf("P10.1 the second source %q", source), tell(t, "hosts: b "+source), behind)
			}
		}
	}
	for size := 1; size <= 100; size++ {
		source := strings.Repeat("s", size)
		want := "1 2"
		if size <= 16 {
			want = "[[] [{" + source + " [1 2 2 2]}] [] [] []]"
		}
		expect(t, fmt.Sprintf("P10.1 a source of %d bytes", size), tell(t, "hosts: "+source), want)
	}
	for _, source := range []string{"-", "--", "0", "return", "success", "hosts", "a-0"} {
		expect(t, "P10.1 the source "+source, tell(t, "hosts: "+source), "[[] [{"+source+" [1 2 2 2]}] [] [] []]")
	}
}

func TestManySteps(t *testing.T) {
	for n := 1; n <= 40; n++ {
		p, err := policy.Parse([]byte("hosts:" + strings.Repeat(" a", n)))
		line, col, _ := outcome.Place(err)
		if n <= 8 && (err != nil || len(p.Steps[1]) != n) || n > 8 && (!errors.Is(err, api.BadText) || line != 1 || col != 10) {
			t.Errorf("P10.1: %d steps: %d, line %d, col %d", n, len(p.Steps[1]), line, col)
		}
	}
	eight := "ports:" + strings.Repeat(" a [SUCCESS=merge ]", 8)
	if p, err := policy.Parse([]byte(eight)); err != nil || len(p.Steps[4]) != 8 || p.Steps[4][7].Do != [4]int{3, 2, 2, 2} {
		t.Errorf("P10.1: eight steps with rules: %v, %v", p, err)
	}
	for _, behind := range []string{" b", " B", " b b", " b [", " b []", " ]", " b [SUCCESS=merge]"} {
		expect(t, "P10.1 behind eight with rules"+behind, tell(t, eight+behind), "1 26")
	}
	expect(t, "P10.1 a wrong word ahead of the ninth", tell(t, "hosts: a a a a a a a [x] a a"), "1 9")
	expect(t, "P10.1 a wrong rule at the eighth", tell(t, "hosts: a a a a a a a a [x] a"), "1 10")
	expect(t, "P10.1 eight, and eight", tell(t, "hosts: a a a a a a a a\naddrs: a a a a a a a a a"), "2 10")
}

func TestRules(t *testing.T) {
	for rules, want := range map[string]string{
		"SUCCESS=return":                  "[1 2 2 2]",
		"SUCCESS=continue":                "[2 2 2 2]",
		"SUCCESS=merge":                   "[3 2 2 2]",
		"NOTFOUND=return":                 "[1 1 2 2]",
		"NOTFOUND=continue":               "[1 2 2 2]",
		"NOTFOUND=merge":                  "[1 2 2 2]",
		"UNAVAIL=return":                  "[1 2 1 2]",
		"UNAVAIL=continue":                "[1 2 2 2]",
		"UNAVAIL=merge":                   "[1 2 2 2]",
		"TRYAGAIN=return":                 "[1 2 2 1]",
		"TRYAGAIN=continue":               "[1 2 2 2]",
		"TRYAGAIN=merge":                  "[1 2 2 2]",
		"!SUCCESS=return":                 "[1 1 1 1]",
		"!SUCCESS=continue":               "[1 2 2 2]",
		"!SUCCESS=merge":                  "[1 2 2 2]",
		"!NOTFOUND=return":                "[1 2 1 1]",
		"!NOTFOUND=continue":              "[2 2 2 2]",
		"!NOTFOUND=merge":                 "[3 2 2 2]",
		"!UNAVAIL=return":                 "[1 1 2 1]",
		"!UNAVAIL=continue":               "[2 2 2 2]",
		"!UNAVAIL=merge":                  "[3 2 2 2]",
		"!TRYAGAIN=return":                "[1 1 1 2]",
		"!TRYAGAIN=continue":              "[2 2 2 2]",
		"!TRYAGAIN=merge":                 "[3 2 2 2]",
		"success=merge":                   "[3 2 2 2]",
		"SUCCESS=MERGE":                   "[3 2 2 2]",
		"sUcCeSs=CoNtInUe":                "[2 2 2 2]",
		"!tryAGAIN=Return":                "[1 1 1 2]",
		"NOTFOUND=return TRYAGAIN=return": "[1 1 2 1]",
		"SUCCESS=merge NOTFOUND=return UNAVAIL=return":          "[3 1 1 2]",
		"NOTFOUND=return NOTFOUND=continue":                     "[1 2 2 2]",
		"NOTFOUND=continue NOTFOUND=return":                     "[1 1 2 2]",
		"NOTFOUND=return NOTFOUND=merge":                        "[1 2 2 2]",
		"SUCCESS=merge SUCCESS=return":                          "[1 2 2 2]",
		"SUCCESS=merge !NOTFOUND=return":                        "[1 2 1 1]",
		"!NOTFOUND=return SUCCESS=merge":                        "[3 2 1 1]",
		"!SUCCESS=return UNAVAIL=continue":                      "[1 1 2 1]",
		"UNAVAIL=continue !SUCCESS=return":                      "[1 1 1 1]",
		"!SUCCESS=return !NOTFOUND=merge":                       "[3 1 2 2]",
		"UNAVAIL=return UNAVAIL=return":                         "[1 2 1 2]",
		strings.Repeat("UNAVAIL=return ", 20) + "SUCCESS=merge": "[3 2 1 2]",
	} {
		for _, brackets := range []string{"[%s]", "[ %s ]", "[ %s]", "[%s ]", "\t[\t%s\r]\r"} {
			body := "addrs: a " + fmt.Sprintf(brackets, rules)
			expect(t, "P10.1 "+body, tell(t, body), "[[] [] [{a "+want+"}] [] []]")
			expect(t, "P10.1 between two: "+body, tell(t, body+" b"), "[[] [] [{a "+want+"} {b [1 2 2 2]}] [] []]")
			behind := strings.Replace(body, ":", ": b", 1)
			expect(t, "P10.1 of the second: "+behind, tell(t, behind), "[[] [] [{b [1 2 2 2]} {a "+want+"}] [] []]")
		}
	}
	expect(t, "P10.1 rules of each step", tell(t, "hosts: a [SUCCESS=merge] b [ !SUCCESS=return ] c d [UNAVAIL=return]\nports: a"),
		"[[] [{a [3 2 2 2]} {b [1 1 1 1]} {c [1 2 2 2]} {d [1 2 1 2]}] [] [] [{a [1 2 2 2]}]]")
}

// noRules: words that are no rule, and no end of a bracket either.
var noRules = []string{
	"x", "SUCCESS", "SUCCESS=", "=return", "=", "!", "!=", "!=return", "!SUCCESS", "!!SUCCESS=return", "SUCCESS!=return", "SUCCESS=!return", "!SUCCESS=",
	"SUCCESS==return", "SUCCESS=return=", "SUCCESS=return=return", "SUCCESS=return,", "SUCCESS=returns", "SUCCESS=retur", "SUCCESS=1", "FOUND=return",
	"SUCCES=return", "SUCCESSS=return", "NOT-FOUND=return", "TRY_AGAIN=return", "UNAVAILABLE=return", "return=SUCCESS", "0=return", "1=1", "!0=return",
	"SUCCESS:return", "SUCCESSreturn", "*=return", "ALL=return", "SUCCESS=returnNOTFOUND=return", "SUCCESS=return!NOTFOUND=return", "SUCCESS=return;NOTFOUND=return",
	"SUCCESS=return]x", "]x", "[", "[SUCCESS=return", "SUCCESS=[return", "SUCCESS=return[", "SUCCESS]=return", "files", "hosts:", strings.Repeat("!", 400),
}

func TestNoRules(t *testing.T) {
	for _, word := range noRules {
		for _, c := range []struct{ body, want string }{
			{"a [%s]", "1 3"},
			{"a [%s", "1 3"},
			{"a [ %s ]", "1 4"},
			{"a [ %s]", "1 4"},
			{"a [ %s", "1 4"},
			{"a [SUCCESS=merge %s ] b", "1 4"},
			{"a [SUCCESS=merge %s] b", "1 4"},
			{"a [SUCCESS=merge %s", "1 4"},
			{"a [ SUCCESS=merge %s SUCCESS=merge ]", "1 5"},
			{"a [ SUCCESS=merge SUCCESS=merge %s x ]", "1 6"},
			{"a b c [%s] [] A", "1 5"},
			{"a [SUCCESS=merge] b [%s]", "1 5"},
		} {
			body := "hosts: " + fmt.Sprintf(c.body, word)
			expect(t, fmt.Sprintf("P10.1 %.60q", body), tell(t, body), c.want)
		}
	}
}

func TestBrackets(t *testing.T) {
	const rule = "SUCCESS=merge"
	for body, want := range map[string]string{
		// Ahead of the first step.
		"[" + rule + "] a": "1 2", "[ " + rule + " ] a": "1 2", "[] a": "1 2", "[ x ] a": "1 2", "[x": "1 2", "[": "1 2", "]": "1 2", "[" + rule + "]": "1 2", "[]": "1 2",
		// Twice behind one.
		"a [" + rule + "] [" + rule + "]": "1 4", "a [ " + rule + " ] [x]": "1 6", "a [" + rule + "] []": "1 4", "a [" + rule + "] [": "1 4", "a [" + rule + "] b [" + rule + "] [" + rule + "]": "1 6",
		"a [" + rule + "] ]": "1 4", "a [ " + rule + " ] ]": "1 6",
		// Not closed: the first word of the bracket, if none is wrong.
		"a [": "1 3", "a [" + rule: "1 3", "a [ " + rule: "1 3", "a [" + rule + " " + rule: "1 3", "a [ " + rule + " !" + rule + " " + rule: "1 3", "a b [" + rule: "1 4", "a [" + rule + "] b [ " + rule: "1 5",
		"a [ # ]": "1 3", "a [" + rule + "#]": "1 3", "a [" + rule + " # ]": "1 3", "a [\n]": "1 3", "a [" + rule + "\nports: ] b": "1 3",
		// What stands behind one that isn't closed is within it.
		"a [ b": "1 4", "a [" + rule + " b": "1 4", "a [" + rule + " b [" + rule + "]": "1 4", "a [ " + rule + " ports: a": "1 5", "a [ [" + rule + "]": "1 4", "a [" + rule + " [" + rule + "]": "1 4",
		// Empty.
		"a []": "1 3", "a [ ]": "1 4", "a [\t\r]": "1 4", "a [] b": "1 3", "a [ ] []": "1 4", "a [" + rule + "] b []": "1 5", "a [] [" + rule + "]": "1 3",
		// Signs that stand too close to others, or too often.
		"a[" + rule + "]": "1 2", "a[ " + rule + "]": "1 2", "a]": "1 2", "a [" + rule + "]b": "1 3", "a [ " + rule + " ]b": "1 5", "a [[" + rule + "]]": "1 3", "a [" + rule + "]]": "1 3", "a [ " + rule + " ]]": "1 5",
		"a [" + rule + "][" + rule + "]": "1 3", "a [[]": "1 3", "a [[ ]": "1 3", "a []]": "1 3", "a [ ]]": "1 4", "a ][": "1 3", "a (" + rule + ")": "1 3", "a " + rule: "1 3", "a " + rule + "]": "1 3",
	} {
		expect(t, "P10.1 hosts: "+body, tell(t, "hosts: "+body), want)
		expect(t, "P10.1 far behind, hosts: "+body, tell(t, "addrs: a\n\n# x\nhosts: "+body), "4"+want[1:])
	}
}

// A line that is right or may still become so, read by expressions.
const (
	oneRule   = `(?i:!?(SUCCESS|NOTFOUND|UNAVAIL|TRYAGAIN)=(return|continue|merge))`
	oneStep   = ` [a-z0-9-]{1,16}( \[ ?` + oneRule + `( ` + oneRule + `)* ?\])?`
	openEnd   = ` [a-z0-9-]{1,16} \[( ?` + oneRule + `( ` + oneRule + `)*)?`
	firstWord = `^(hosts|addrs|services|ports):`
)

var (
	whole    = regexp.MustCompile(firstWord + `(` + oneStep + `){1,8}$`)
	begun    = regexp.MustCompile(firstWord + `((` + oneStep + `){0,8}|(` + oneStep + `){0,7}` + openEnd + `)$`)
	stepOf   = regexp.MustCompile(` ([a-z0-9-]+)(?: \[([^\]]*)\])?`)
	numberOf = map[string]int{"RETURN": 1, "CONTINUE": 2, "MERGE": 3}
)

// plain tells what Parse must answer for a hosts' line of words, another way: by the shortest beginning that nothing can mend.
func plain(words []string) string {
	line := strings.Join(words, " ")
	if whole.MatchString(line) {
		var steps []api.Step
		for _, found := range stepOf.FindAllStringSubmatch(strings.TrimPrefix(line, "hosts:"), -1) {
			steps = append(steps, api.Step{Source: found[1], Do: plainDo(strings.Fields(strings.ToUpper(found[2])))})
		}
		return fmt.Sprint([5][]api.Step{1: steps})
	}
	for i := range words {
		if !begun.MatchString(strings.Join(words[:i+1], " ")) {
			return fmt.Sprint(1, " ", i+1)
		}
	}
	// All of it could go on: it has no step, or its last bracket isn't closed.
	for i := len(words) - 1; i > 0; i-- {
		if strings.HasPrefix(words[i], "[") {
			return fmt.Sprint(1, " ", i+1)
		}
	}
	return "1 1"
}

// plainDo: for each outcome the last rule that is of it.
func plainDo(rules []string) [4]int {
	do := [4]int{1, 2, 2, 2}
	for i, name := range []string{"SUCCESS", "NOTFOUND", "UNAVAIL", "TRYAGAIN"} {
		for _, rule := range slices.Backward(rules) {
			of, action, _ := strings.Cut(rule, "=")
			if of == name || of[0] == '!' && of[1:] != name {
				do[i] = numberOf[action]
				break
			}
		}
		if i > 0 && do[i] == 3 {
			do[i] = 2
		}
	}
	return do
}

// TestShortLines holds Parse against the words of the promise at all lines of a few words.
func TestShortLines(t *testing.T) {
	signs := []string{"a", "b-1", "B", "[", "]", "[]", "SUCCESS=merge", "[!UNAVAIL=Return", "success=continue]", "[NotFound=return]", "[x", "]]"}
	var grow func(words []string, left int)
	grow = func(words []string, left int) {
		line := strings.Join(words, " ")
		if got, want := tell(t, line), plain(words); got != want {
			t.Fatalf("P10.1: Parse(%q): %s, want %s", line, got, want)
		}
		reread(t, line)
		for i := 0; left > 0 && i < len(signs); i++ {
			grow(append(slices.Clone(words), signs[i]), left-1)
		}
	}
	grow([]string{"hosts:"}, 4)
	// The same behind seven steps, where one more may stand.
	grow(strings.Fields("hosts: a b [SUCCESS=merge] a b [ UNAVAIL=return ] a b a"), 3)
}

// reread: of a policy that Parse gives, Parse of what Print tells is the same.
func reread(t *testing.T, body string) {
	t.Helper()
	p, err := policy.Parse([]byte(body))
	if err != nil {
		return
	}
	printed := policy.Print(p)
	q, err := policy.Parse([]byte(printed))
	if err != nil || fmt.Sprint(p) != fmt.Sprint(q) {
		t.Fatalf("P10.2: of %q: %v, printed %q: %v, %v", body, p, printed, q, err)
	}
	if again := policy.Print(q); again != printed {
		t.Fatalf("P10.2: of %q: printed %q, and then %q", body, printed, again)
	}
}

func TestPrint(t *testing.T) {
	for body, want := range map[string]string{
		"":                                  "",
		" # hosts: a":                       "",
		"hosts: a":                          "hosts: a\n",
		"ports: d\nservices: c\naddrs: b e": "addrs: b e\nservices: c\nports: d\n",
		"hosts:\ta\t\tb # c":                "hosts: a b\n",
		"hosts: a [SUCCESS=return] b":       "hosts: a b\n",
		"hosts: a [!SUCCESS=merge] b":       "hosts: a b\n",
		"hosts: a [success=merge] b":        "hosts: a [SUCCESS=merge] b\n",
		"hosts: a [ tryagain=RETURN ]":      "hosts: a [TRYAGAIN=return]\n",
		"hosts: a [!TRYAGAIN=return]":       "hosts: a [NOTFOUND=return UNAVAIL=return]\n",
		"hosts: a [!TRYAGAIN=continue]":     "hosts: a [SUCCESS=continue]\n",
		"hosts: a [!UNAVAIL=merge] b [x=x]": "",
		"hosts: a [UNAVAIL=return] b [ SUCCESS=continue NOTFOUND=return ] c":      "hosts: a [UNAVAIL=return] b [SUCCESS=continue NOTFOUND=return] c\n",
		"ports: a [TRYAGAIN=return UNAVAIL=return NOTFOUND=return SUCCESS=merge]": "ports: a [SUCCESS=merge NOTFOUND=return UNAVAIL=return TRYAGAIN=return]\n",
	} {
		p, _ := policy.Parse([]byte(body))
		if got := policy.Print(p); got != want {
			t.Errorf("P10.2: Print of %q: %q, want %q", body, got, want)
		}
		reread(t, body)
	}
}

// TestPrintDo prints each four actions, and reads them again.
func TestPrintDo(t *testing.T) {
	names := []string{"SUCCESS=", "NOTFOUND=", "UNAVAIL=", "TRYAGAIN="}
	actions := []string{1: "return", 2: "continue", 3: "merge"}
	for n := range 3 * 3 * 3 * 3 {
		do := [4]int{n%3 + 1, n/3%3 + 1, n/9%3 + 1, n/27 + 1}
		var rules []string
		for i, action := range do {
			if i == 0 && action != api.AReturn || i > 0 && action != api.AContinue {
				rules = append(rules, names[i]+actions[action])
			}
		}
		want := "services: a b\n"
		if len(rules) > 0 {
			want = "services: a [" + strings.Join(rules, " ") + "] b\n"
		}
		plain := api.Step{Source: "b", Do: [4]int{1, 2, 2, 2}}
		p := policy.Policy{Steps: [5][]api.Step{api.DServices: {{Source: "a", Do: do}, plain}}}
		if got := policy.Print(p); got != want {
			t.Errorf("P10.2: Print of %v: %q, want %q", do, got, want)
		}
		q, err := policy.Parse([]byte(want))
		mended := do
		for i := 1; i < 4; i++ {
			if mended[i] == api.AMerge {
				mended[i] = api.AContinue
			}
		}
		if err != nil || len(q.Steps[api.DServices]) != 2 || q.Steps[api.DServices][0].Do != mended {
			t.Errorf("P10.1: Parse(%q): %v, %v", want, q, err)
		}
	}
}

// TestPrintOdd: a policy that no Parse gives is printed as it stands, as far as there are words for it.
func TestPrintOdd(t *testing.T) {
	step := api.Step{Source: "a", Do: [4]int{1, 2, 2, 2}}
	all := policy.Policy{Steps: [5][]api.Step{{step}, {}, nil, {step}, {}}}
	if got := policy.Print(all); got != "services: a\n" {
		t.Errorf("P10.2: steps of no database, and databases without steps: %q", got)
	}
	for _, n := range []int{0, -1, 4, 5, 255, math.MinInt, math.MaxInt, 1<<32 + 1} {
		p := policy.Policy{Steps: [5][]api.Step{1: {{Source: "a", Do: [4]int{n, n, n, n}}, {Source: "b", Do: [4]int{3, n, 1, n}}}}}
		if got := policy.Print(p); got != "hosts: a b [SUCCESS=merge UNAVAIL=return]\n" {
			t.Errorf("P0.1: Print of the action %d: %q", n, got)
		}
	}
	const many = 100000
	p := policy.Policy{Steps: [5][]api.Step{4: slices.Repeat([]api.Step{step}, many)}}
	if got := policy.Print(p); got != "ports:"+strings.Repeat(" a", many)+"\n" {
		t.Errorf("P0.1: Print of %d steps: %d bytes", many, len(got))
	}
	p = policy.Policy{Steps: [5][]api.Step{2: {{Source: "No\nsource \xff", Do: step.Do}, {Source: "", Do: step.Do}, step}}}
	if got := policy.Print(p); got != "addrs: No\nsource \xff  a\n" {
		t.Errorf("P0.1: Print of sources that are none: %q", got)
	}
}

func TestDefault(t *testing.T) {
	const want = "[[] [{files [1 2 2 2]} {dns [1 2 2 2]}] [{files [1 2 2 2]} {dns [1 2 2 2]}] [{files [1 2 2 2]} {builtin [1 2 2 2]}] [{files [1 2 2 2]} {builtin [1 2 2 2]}]]"
	expect(t, "P10.2 Default", fmt.Sprint(policy.Default().Steps), want)
	expect(t, "P10.2 Default printed", policy.Print(policy.Default()), "hosts: files dns\naddrs: files dns\nservices: files builtin\nports: files builtin\n")
	spoil(t, policy.Default())
	expect(t, "P0.3 Default again", fmt.Sprint(policy.Default().Steps), want)
}

// spoil writes into each list of p, spare room too, and faults two that share memory.
func spoil(t *testing.T, p policy.Policy) {
	t.Helper()
	for db, steps := range p.Steps {
		steps = steps[:cap(steps)]
		for i := range steps {
			steps[i] = api.Step{Source: fmt.Sprint(db), Do: [4]int{db, db, db, db}}
		}
	}
	for db, steps := range p.Steps {
		for i, step := range steps[:cap(steps)] {
			if step.Source != fmt.Sprint(db) {
				t.Errorf("P0.3: step %d of %d shares memory with %s", i, db, step.Source)
			}
		}
	}
}

func TestOwnMemory(t *testing.T) {
	const body, room = "hosts: a b c [SUCCESS=merge]\naddrs: a b c\nservices: a\nports: a", "# spare: room"
	all := []byte(body + room)
	handed := all[:len(body)]
	first, _ := policy.Parse(handed)
	second, _ := policy.Parse(handed)
	want := fmt.Sprint(second)
	if string(all) != body+room {
		t.Errorf("P0.3: the body that was handed in, or its room: %q", all)
	}
	copy(all, bytes.Repeat([]byte("!"), len(all)))
	if fmt.Sprint(first) != want || !strings.Contains(want, "{c [3 2 2 2]}") {
		t.Errorf("P0.3: what was answered is kept in the body: %v", first)
	}
	spoil(t, first)
	if fmt.Sprint(second) != want {
		t.Errorf("P0.3: two answers share memory: %v", second)
	}
	steps := append(make([]api.Step, 0, 4), second.Steps[1]...)
	spare := steps[:4]
	spare[3] = api.Step{Source: "spare"}
	held := fmt.Sprint(spare)
	printed := policy.Print(policy.Policy{Steps: [5][]api.Step{1: steps}})
	if fmt.Sprint(spare) != held || printed != "hosts: a b c [SUCCESS=merge]\n" {
		t.Errorf("P0.3: the steps that were handed in, or their room: %v, %q", spare, printed)
	}
}

func TestAnyBytes(t *testing.T) {
	for _, body := range [][]byte{nil, {}, make([]byte, 0, 9), {0}, {255}, {'#'}, []byte(strings.Repeat("\n", 1<<20)), []byte(strings.Repeat("\x00\n", 1<<18))} {
		if p, err := policy.Parse(body); err != nil || fmt.Sprint(p) != fmt.Sprint(policy.Policy{}) {
			t.Errorf("P0.1, P0.4: Parse(%.20q): %v, %v", body, p, err)
		}
	}
	expect(t, "P0.1 a line of 2 MiB", tell(t, strings.Repeat("hosts: ", 1<<18)+"\nhosts: a"), "[[] [{a [1 2 2 2]}] [] [] []]")
	expect(t, "P0.1 a huge body", tell(t, "hosts: a\n"+strings.Repeat("# x\n", 1<<18)+"x"), "262146 1")
	expect(t, "P0.1 one line again and again", tell(t, strings.Repeat("hosts: a\n", 1<<18)), "2 1")
}
