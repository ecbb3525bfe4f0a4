package tests

import (
	"fmt"
	"math/rand/v2"
	"slices"
	"strings"
	"testing"

	"loop.example/g01389/impl"
)

// TestLimitsOfDesk checks the limit that chapter 8 names.
func TestLimitsOfDesk(t *testing.T) {
	want(t, "MaxScript", impl.MaxScript, 16000)
}

// TestDeskExample checks the examples at the end of chapter 8.
func TestDeskExample(t *testing.T) {
	d := impl.NewDesk()
	for line, output := range map[string]string{"best 1": "1,0;4", "shifts": "6", "mixed": "0,1,0"} {
		wantLine(t, d, line, d, output)
	}
	after, outputs, ok := impl.RunDesk(d, "best 1\nshifts\nmixed\n")
	want(t, "all three", ok && outputs == "1,0;4\n6\n0,1,0\n" && impl.SameDesk(after, d), true)
}

// newByHand is a new desk, written out.
func newByHand() impl.Desk {
	return impl.Desk{
		Jobs:    []impl.Job{{Time: 2, Due: 4, Weight: 1}, {Time: 1, Due: 2, Weight: 1}},
		Rule:    impl.ShiftRule{Slots: 3, Least: 1, Most: 2, Row: 2, Pause: 1},
		Counts:  []int64{2, 1},
		Pattern: "dd.",
	}
}

// greatDesk has as much as there can be.
func greatDesk() impl.Desk {
	return impl.Desk{
		Jobs:    repeated(impl.Job{Time: impl.MaxTime, Release: impl.MaxTime, Due: impl.MaxTime, Weight: impl.MaxTime}, impl.MaxJobs),
		Rule:    impl.ShiftRule{Slots: impl.MaxSlots, Least: 24, Most: 24, Row: 24, Pause: 24},
		Counts:  []int64{16, 16, 16, 16, 0, 0, 0, 0},
		Pattern: strings.Repeat("z", 64),
	}
}

// drawCounts returns counts of models, the sum of which is at most 64.
func drawCounts(r *rand.Rand) []int64 {
	counts := drawList(r, 1+r.IntN(impl.MaxModels), 0, []int64{2, 8}[r.IntN(2)])
	counts[r.IntN(len(counts))]++
	return counts
}

// drawDesk returns a valid desk, at which all jobs are often released at 0, or few.
func drawDesk(r *rand.Rand) impl.Desk {
	most := []int{5, impl.MaxSearch, impl.MaxJobs}[r.IntN(3)]
	d := impl.Desk{Jobs: drawJobs(r, 1+r.IntN(most), 1+4*r.Int64N(2)), Rule: drawShiftRule(r, 1+r.Int64N(impl.MaxSlots)), Counts: drawCounts(r), Pattern: drawDays(r, 1+r.IntN(64))}
	for sumByHand(d.Counts) > 64 {
		d.Counts = drawCounts(r)
	}
	return d
}

// copyOfDesk returns a copy that shares no memory.
func copyOfDesk(d impl.Desk) impl.Desk {
	return impl.Desk{Jobs: tight(d.Jobs), Rule: d.Rule, Counts: tight(d.Counts), Pattern: strings.Clone(d.Pattern)}
}

// badDesks are desks with one part that is not valid.
func badDesks() []impl.Desk {
	desks := []impl.Desk{{}, {Jobs: newByHand().Jobs}, {Pattern: "d"}}
	for _, jobs := range badJobs() {
		d := newByHand()
		d.Jobs = jobs
		desks = append(desks, d)
	}
	for _, rule := range badShiftRules() {
		d := newByHand()
		d.Rule = rule
		desks = append(desks, d)
	}
	for _, counts := range wrongCounts() {
		d := newByHand()
		d.Counts = counts
		desks = append(desks, d)
	}
	for _, pattern := range wrongDays(64) {
		d := newByHand()
		d.Pattern = pattern
		desks = append(desks, d)
	}
	return desks
}

// isSame reports whether two desks have equal parts, one after another.
func isSame(a, b impl.Desk) bool {
	return slices.Equal(a.Jobs, b.Jobs) && a.Rule == b.Rule && slices.Equal(a.Counts, b.Counts) && a.Pattern == b.Pattern
}

// isNone reports whether a desk is a zero value.
func isNone(d impl.Desk) bool { return isSame(d, impl.Desk{}) }

// wantLine fails if a line does not return a desk, and an output.
func wantLine(t *testing.T, d impl.Desk, line string, after impl.Desk, output string) {
	t.Helper()
	got, text, ok := impl.DeskCommand(d, line)
	if !ok || text != output || !isSame(got, after) {
		t.Errorf("line %.80q at %v: got %v, %q, %v, want %v, %q", line, d, got, text, ok, after, output)
	}
}

// listByHand returns the text of a list.
func listByHand(list []int64) string {
	if len(list) == 0 {
		return "none"
	}
	return strings.ReplaceAll(strings.Trim(fmt.Sprint(list), "[]"), " ", ",")
}

// jobsByHand returns the text of jobs.
func jobsByHand(jobs []impl.Job) string {
	var texts []string
	for _, job := range jobs {
		texts = append(texts, fmt.Sprintf("%d,%d,%d,%d", job.Time, job.Release, job.Due, job.Weight))
	}
	return strings.Join(texts, ";")
}

// shiftRuleByHand returns the text of a rule.
func shiftRuleByHand(r impl.ShiftRule) string {
	return fmt.Sprintf("%d,%d,%d,%d,%d", r.Slots, r.Least, r.Most, r.Row, r.Pause)
}

// checkByHand returns the check number of bytes behind one.
func checkByHand(check int, s string) int {
	for _, b := range []byte(s) {
		check = (967*check + int(b) + 227) % 65003
	}
	return check
}

// journalByHand returns the journal of lines.
func journalByHand(lines []string) string {
	var journal strings.Builder
	check := 0
	for _, line := range lines {
		check = checkByHand(check, line)
		fmt.Fprintf(&journal, "%d %s\n", check, line)
	}
	return journal.String()
}

// brokenTexts returns a text cut at each byte, with each byte doubled, with each one left out, and with each one another one.
func brokenTexts(s string) []string {
	var texts []string
	for i := range len(s) {
		texts = append(texts, s[:i], s[:i+1]+s[i:], s[:i]+s[i+1:])
		for b := range 256 {
			if byte(b) != s[i] {
				texts = append(texts, s[:i]+string([]byte{byte(b)})+s[i+1:])
			}
		}
	}
	return texts
}
