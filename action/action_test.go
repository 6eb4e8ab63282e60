package action_test

import (
	"fmt"
	"math"
	"slices"
	"strings"
	"testing"

	"concierge/action"
	"concierge/api"
	"concierge/policy"
)

// allReturn and goOn are actions that each step may have.
var (
	allReturn = [4]int{api.AReturn, api.AReturn, api.AReturn, api.AReturn}
	goOn      = [4]int{api.AMerge, api.AContinue, api.AContinue, api.AContinue}
)

// odd are numbers of no row, whatever table it is.
var odd = []int{-1, -2, -8, 8, 9, 100, 256, 1 << 32, 1<<32 + 1, math.MaxInt, math.MaxInt - 1, math.MinInt, math.MinInt + 1}

// allOutcomes are codes of each sort, and what each counts as.
var allOutcomes = [][2]api.Code{
	{api.Found, api.Found}, {api.NotFound, api.NotFound}, {api.Unavail, api.Unavail}, {api.TryAgain, api.TryAgain},
	{api.Busy, api.Unavail}, {api.BadText, api.Unavail}, {api.BadName, api.Unavail}, {api.BadQuery, api.Unavail},
	{api.BadMessage, api.Unavail}, {api.BadFrame, api.Unavail}, {api.BadRecord, api.Unavail}, {api.Full, api.Unavail},
	{12, api.Unavail}, {-1, api.Unavail}, {-2, api.Unavail}, {-3, api.Unavail}, {-4, api.Unavail}, {256, api.Unavail}, {257, api.Unavail},
	{1 << 32, api.Unavail}, {1<<32 + 1, api.Unavail}, {math.MaxInt, api.Unavail}, {math.MinInt, api.Unavail}, {math.MinInt + 1, api.Unavail},
}

func expect(t *testing.T, promise string, got, want any) {
	t.Helper()
	if got, want := fmt.Sprint(got), fmt.Sprint(want); got != want {
		t.Errorf("%s: got %s, want %s", promise, got, want)
	}
}

// compile: the table of steps that are right.
func compile(t *testing.T, steps []api.Step) *action.Table {
	t.Helper()
	tab, err := action.Compile(steps)
	if err != nil || tab == nil {
		t.Fatalf("P11.1: Compile(%v): %v, %v", steps, tab, err)
	}
	return tab
}

// refuse: steps that are wrong are none of a table.
func refuse(t *testing.T, steps []api.Step) {
	t.Helper()
	if tab, err := action.Compile(steps); tab != nil || err != api.BadText {
		t.Errorf("P11.1: Compile(%v): %v, %v", steps, tab, err)
	}
}

// next tells what Next answers in one text.
func next(tab *action.Table, row int, c api.Code) string {
	return fmt.Sprint(tab.Next(row, c))
}

// many: n steps that go on, with sources of their own.
func many(n int) []api.Step {
	var steps []api.Step
	for i := range n {
		steps = append(steps, api.Step{Source: fmt.Sprint("s", i), Do: goOn})
	}
	return steps
}

func TestHowMany(t *testing.T) {
	refuse(t, nil)
	refuse(t, []api.Step{})
	for n := 1; n <= 40; n++ {
		if n > 8 {
			refuse(t, many(n))
			continue
		}
		tab := compile(t, many(n))
		expect(t, fmt.Sprintf("P11.1 Len of %d steps", n), tab.Len(), n)
		for row := range n {
			expect(t, "P11.1 Source", tab.Source(row), fmt.Sprint("s", row))
		}
		for _, row := range append([]int{n, n + 1}, odd...) {
			expect(t, fmt.Sprintf("P11.1 Source(%d) of %d steps", row, n), tab.Source(row), "")
		}
	}
}

func TestSources(t *testing.T) {
	refuse(t, []api.Step{{Do: allReturn}})
	refuse(t, []api.Step{{Source: "", Do: goOn}})
	for _, source := range []string{"a", "A", " ", "\x00", "\xff", "files", "two words", strings.Repeat("s", 17), strings.Repeat("x", 100000)} {
		tab := compile(t, []api.Step{{Source: source, Do: allReturn}, {Source: source, Do: goOn}})
		expect(t, "P11.1 Source", tab.Source(0) == source && tab.Source(1) == source && tab.Len() == 2, true)
	}
}

// may is what the chapter says of the actions of a step.
func may(do [4]int) bool {
	for i, a := range do {
		if a != 1 && a != 2 && (a != 3 || i > 0) {
			return false
		}
	}
	return true
}

// TestActions lays numbers that are actions and ones that are none at each outcome.
func TestActions(t *testing.T) {
	numbers := []int{-1, 0, 1, 2, 3, 4}
	right := 0
	for _, a := range numbers {
		for _, b := range numbers {
			for _, c := range numbers {
				for _, d := range numbers {
					do := [4]int{a, b, c, d}
					if !may(do) {
						refuse(t, []api.Step{{Source: "a", Do: do}})
						continue
					}
					right++
					compile(t, []api.Step{{Source: "a", Do: do}})
				}
			}
		}
	}
	expect(t, "P11.1 how many actions of a step are right", right, 3*2*2*2)
	for _, none := range []int{-3, -2, 5, 256, 257, 258, 259, 1<<32 + 1, 1<<32 + 2, 1<<32 + 3, math.MaxInt, math.MinInt} {
		for at := range 4 {
			do := allReturn
			do[at] = none
			refuse(t, []api.Step{{Source: "a", Do: do}})
		}
	}
}

// TestWrongStep lays a wrong step at each place of tables of each size.
func TestWrongStep(t *testing.T) {
	for _, wrong := range []api.Step{
		{}, {Do: goOn}, {Source: "a"}, {Source: "a", Do: [4]int{0, 1, 1, 1}}, {Source: "a", Do: [4]int{1, 1, 1, 4}}, {Source: "a", Do: [4]int{3, 1, -1, 1}},
		{Source: "a", Do: [4]int{1, 3, 1, 1}}, {Source: "a", Do: [4]int{1, 1, 3, 1}}, {Source: "a", Do: [4]int{1, 1, 1, 3}}, {Source: "a", Do: [4]int{3, 3, 3, 3}},
	} {
		for n := 1; n <= 10; n++ {
			for at := range n {
				steps := many(n)
				steps[at] = wrong
				refuse(t, steps)
			}
		}
	}
}

func TestNext(t *testing.T) {
	tab := compile(t, []api.Step{
		{Source: "a", Do: [4]int{api.AMerge, api.AContinue, api.AReturn, api.AContinue}},
		{Source: "b", Do: [4]int{api.AContinue, api.AReturn, api.AContinue, api.AReturn}},
		{Source: "c", Do: [4]int{api.AReturn, api.AContinue, api.AContinue, api.AReturn}},
	})
	for row, wants := range [][4]string{
		{"3 1 true", "2 1 true", "1 0 false", "2 1 true"},
		{"2 2 true", "1 0 false", "2 2 true", "1 0 false"},
		{"1 0 false", "2 0 false", "2 0 false", "1 0 false"},
	} {
		for _, c := range allOutcomes {
			expect(t, fmt.Sprintf("P11.1 Next(%d, %d)", row, c[0]), next(tab, row, c[0]), wants[c[1]])
		}
	}
	for _, row := range append([]int{3, 4}, odd...) {
		for _, c := range allOutcomes {
			expect(t, fmt.Sprintf("P11.1 Next(%d, %d)", row, c[0]), next(tab, row, c[0]), "0 0 false")
		}
	}
	last := compile(t, []api.Step{{Source: "a", Do: goOn}})
	expect(t, "P11.1 merge in the last row", next(last, 0, api.Found), "3 0 false")
	expect(t, "P11.1 continue in the last row", next(last, 0, api.TryAgain), "2 0 false")
}

// plainNext is a second reading of Next over the steps themselves.
func plainNext(steps []api.Step, row int, c api.Code) string {
	if row < 0 || row >= len(steps) {
		return "0 0 false"
	}
	its := steps[row].Do[2]
	if c == 0 || c == 1 || c == 3 {
		its = steps[row].Do[c]
	}
	if its == 1 || row == len(steps)-1 {
		return fmt.Sprint(its, 0, false)
	}
	return fmt.Sprint(its, row+1, true)
}

// TestAgainstPlain holds tables of each size, with each actions at each row, against the second reading.
func TestAgainstPlain(t *testing.T) {
	var dos [][4]int
	for k := range 3 * 2 * 2 * 2 {
		dos = append(dos, [4]int{k%3 + 1, k/3%2 + 1, k/6%2 + 1, k/12 + 1})
	}
	for n := 1; n <= 8; n++ {
		for k := range dos {
			steps := many(n)
			for i := range steps {
				steps[i].Do = dos[(k+7*i)%len(dos)]
			}
			tab := compile(t, steps)
			for row := -2; row < n+2; row++ {
				for _, c := range allOutcomes {
					expect(t, fmt.Sprintf("P11.1 Next(%d, %d) of %v", row, c[0], steps), next(tab, row, c[0]), plainNext(steps, row, c[0]))
				}
			}
		}
	}
}

// TestWalk goes through tables from row to row: each step once, in their order.
func TestWalk(t *testing.T) {
	for n := 1; n <= 8; n++ {
		tab := compile(t, many(n))
		var seen []string
		for row, on := 0, true; on && len(seen) < 100; {
			seen = append(seen, tab.Source(row))
			_, row, on = tab.Next(row, api.Code(len(seen)))
		}
		var want []string
		for _, step := range many(n) {
			want = append(want, step.Source)
		}
		expect(t, "P11.1 a walk", seen, want)
	}
}

// TestPolicies: what policies give is compiled.
func TestPolicies(t *testing.T) {
	for db, steps := range policy.Default().Steps {
		if db == 0 {
			refuse(t, steps)
			continue
		}
		tab := compile(t, steps)
		expect(t, "P11.1 a default's rows", tab.Len(), 2)
		expect(t, "P11.1 a default's first row, found", next(tab, 0, api.Found), "1 0 false")
		expect(t, "P11.1 a default's first row, not found", next(tab, 0, api.NotFound), "2 1 true")
	}
	p, err := policy.Parse([]byte("hosts: a [SUCCESS=merge] b [!NOTFOUND=return] c"))
	if err != nil {
		t.Fatal(err)
	}
	tab := compile(t, p.Steps[api.DHosts])
	expect(t, "P11.1 a policy's merge", next(tab, 0, api.Found), "3 1 true")
	expect(t, "P11.1 a policy's rule", next(tab, 1, api.BadFrame), "1 0 false")
	expect(t, "P11.1 a policy's rule", next(tab, 1, api.NotFound), "2 2 true")
}

func TestNoTable(t *testing.T) {
	for _, tab := range []*action.Table{nil, {}} {
		expect(t, "P0.1 Len", tab.Len(), 0)
		for _, row := range append([]int{0, 1, 7}, odd...) {
			expect(t, "P0.1 Source", tab.Source(row), "")
			for _, c := range allOutcomes {
				expect(t, "P0.1 Next", next(tab, row, c[0]), "0 0 false")
			}
		}
	}
}

func TestManySteps(t *testing.T) {
	refuse(t, make([]api.Step, 1<<20))
	refuse(t, many(1<<16))
}

// TestSteps: the list that is handed in is neither changed nor kept, its spare room neither.
func TestSteps(t *testing.T) {
	room := many(8)
	before := slices.Clone(room)
	tab := compile(t, room[:3])
	refuse(t, append(slices.Clip(room[:2]), api.Step{}))
	expect(t, "P0.3 the steps behind Compile", room, before)
	for i := range room {
		room[i] = api.Step{Source: "other", Do: allReturn}
	}
	expect(t, "P0.3 Len", tab.Len(), 3)
	for row := range 3 {
		expect(t, "P0.3 Source", tab.Source(row), before[row].Source)
		for _, c := range allOutcomes {
			expect(t, "P0.3 Next", next(tab, row, c[0]), plainNext(before[:3], row, c[0]))
		}
	}
}

// TestTables: tables of one list have nothing in common, and asking one changes none.
func TestTables(t *testing.T) {
	steps := many(2)
	first := compile(t, steps)
	steps[0] = api.Step{Source: "b", Do: allReturn}
	second := compile(t, steps)
	for range 3 {
		expect(t, "P0.5 the first", first.Source(0)+" "+next(first, 0, api.Found)+" "+next(first, 5, 0), "s0 3 1 true 0 0 false")
		expect(t, "P0.5 the second", second.Source(0)+" "+next(second, 0, api.Found)+" "+next(second, 1, -1), "b 1 0 false 2 0 false")
	}
}
