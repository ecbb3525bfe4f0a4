package tests

import (
	"fmt"
	"strings"
	"testing"

	"loop.example/g01389/impl"
)

// A lineCase is a line, and its output.
type lineCase struct{ line, output string }

// TestLinesThatTell checks lines at the new desk that change nothing.
func TestLinesThatTell(t *testing.T) {
	for _, c := range []lineCase{
		{"jobs", "2,0,4,1;1,0,2,1"}, {"rule", "3,1,2,2,1"}, {"counts", "2,1"}, {"pattern", "dd."},
		{"order 0", "1,0"}, {"order 1", "1,0"}, {"order 2", "0,1"}, {"order 3", "1,0"},
		{"cost 0 0,1", "3"}, {"cost 1 0,1", "5"}, {"cost 1 1,0", "4"}, {"cost 2 0,1", "1"}, {"cost 2 1,0", "-1"}, {"cost 3 0,1", "1"}, {"cost 4 0,1", "1"}, {"cost 4 1,0", "0"},
		{"best 0", "0,1;3"}, {"best 1", "1,0;4"}, {"best 2", "1,0;-1"}, {"best 3", "1,0;0"}, {"best 4", "1,0;0"},
		{"late", "1,0;0"}, {"pieces 0", "3,1;1,1"}, {"pieces 1", "3,1;1,1"}, {"last 1", "0,0;3"}, {"last 2", "0,1;2"}, {"last 8", "0,1;2"},
		{"shifts", "6"}, {"first", "..w"}, {"next ..w", ".w."}, {"next .w.", ".ww"}, {"next w.w", "ww."}, {"mixed", "0,1,0"}, {"gap 0,1,0", "1"}, {"gap 0,0,1", "2"}, {"gap 1,0,0", "2"},
		{"roster 1 1", "d"}, {"roster 2 3", "dd.,d.d"}, {"roster 3 4", "dd.d,d.dd,.dd."}, {"runs", "2,1"}, {"wait 1 2", "3eaaaaaa"},
	} {
		wantLine(t, newByHand(), c.line, newByHand(), c.output)
	}
}

// TestLinesThatChange checks lines at the new desk that change one part.
func TestLinesThatChange(t *testing.T) {
	jobs, rule, counts, pattern := newByHand(), newByHand(), newByHand(), newByHand()
	jobs.Jobs = []impl.Job{{Time: 3, Release: 4, Due: 5, Weight: 6}}
	rule.Rule = impl.ShiftRule{Slots: 5, Least: 0, Most: 4, Row: 3, Pause: 2}
	counts.Counts = []int64{0, 16, 3}
	pattern.Pattern = "n..e"
	wantLine(t, newByHand(), "jobs 3,4,5,6", jobs, "ok")
	wantLine(t, newByHand(), "rule 5,0,4,3,2", rule, "ok")
	wantLine(t, newByHand(), "counts 0,16,3", counts, "ok")
	wantLine(t, newByHand(), "pattern n..e", pattern, "ok")
	sorted := newByHand()
	sorted.Jobs[0], sorted.Jobs[1] = sorted.Jobs[1], sorted.Jobs[0]
	for _, by := range []int{0, 1, 3} {
		wantLine(t, newByHand(), fmt.Sprint("sort ", by), sorted, "ok")
		wantLine(t, sorted, fmt.Sprint("sort ", by), sorted, "ok")
	}
	wantLine(t, newByHand(), "sort 2", newByHand(), "ok")
	three := newByHand()
	three.Jobs = []impl.Job{{Time: 3, Release: 2, Due: 1, Weight: 9}, {Time: 1, Release: 3, Due: 2, Weight: 2}, {Time: 2, Release: 1, Due: 3, Weight: 5}}
	for by, order := range [][]int{{1, 2, 0}, {0, 1, 2}, {2, 0, 1}, {0, 2, 1}} {
		after := copyOfDesk(three)
		for place, job := range order {
			after.Jobs[place] = three.Jobs[job]
		}
		wantLine(t, three, fmt.Sprint("sort ", by), after, "ok")
	}
	// The same parts are given again.
	for _, line := range []string{"jobs 2,0,4,1;1,0,2,1", "rule 3,1,2,2,1", "counts 2,1", "pattern dd."} {
		wantLine(t, newByHand(), line, newByHand(), "ok")
	}
}

// TestLinesWithParts checks that each line takes the part that it tells of.
func TestLinesWithParts(t *testing.T) {
	d := newByHand()
	d.Jobs = []impl.Job{{Time: 4, Release: 2, Due: 9, Weight: 1}, {Time: 2, Release: 3, Due: 1, Weight: 3}, {Time: 5, Due: 7, Weight: 2}}
	d.Rule = impl.ShiftRule{Slots: 4, Least: 2, Most: 2, Row: 1, Pause: 2}
	d.Counts, d.Pattern = []int64{1, 0, 3}, "ab..c"
	for _, c := range []lineCase{
		{"order 2", "2,0,1"}, {"cost 1 2,1,0", "42"}, {"cost 2 2,1,0", "6"}, {"best 1", "no"}, {"late", "no"}, {"pieces 0", "11,5,7;1,1,2"}, {"last 2", "1,1,0;6"}, {"last 3", "1,2,0;5"},
		{"shifts", "1"}, {"first", "w..w"}, {"next w..w", "no"}, {"mixed", "2,0,2,2"}, {"gap 2,0,2,2", "2"}, {"gap 0,2,2,2", "3"}, {"roster 3 2", "ab,b.,.."}, {"roster 1 7", "ab..cab"}, {"runs", "2,2"}, {"wait 3 4", "3f026a43"},
	} {
		after, output := lineByHand(d, c.line)
		wantLine(t, d, c.line, d, output)
		want(t, "a line that tells "+c.line, isSame(after, d), true)
		if c.output != output {
			t.Errorf("line %q: got %q, want %q", c.line, output, c.output)
		}
	}
}

// TestLinesWithNo checks lines that have a form, and are answered with no.
func TestLinesWithNo(t *testing.T) {
	lines := []string{
		"jobs ", "jobs x", "jobs none", "jobs 1,0,0", "jobs 0,0,0,0", "jobs 1,0,0,0;", "jobs jobs", "jobs 1,0,0,0\n", "jobs 1,0,0,10001", "jobs " + strings.Repeat("1,0,0,0;", impl.MaxJobs) + "1,0,0,0",
		"rule ", "rule none", "rule 3,1,2,2", "rule 0,0,0,1,1", "rule 25,0,0,1,1", "rule 3,1,2,2,1,1", "rule 3,2,1,2,1",
		"counts ", "counts none", "counts x", "counts 0", "counts 0,0", "counts 17", "counts -1", "counts 1,-1", "counts 16,16,16,16,1", "counts 1,1,1,1,1,1,1,1,1", "counts 2,1,", "counts 02,1",
		"pattern ", "pattern A", "pattern d\n", "pattern d,d", "pattern d-", "pattern é", "pattern 1", "pattern \xff", "pattern " + strings.Repeat("d", 65),
		"order ", "order 4", "order -1", "order x", "order 00", "order +1", "order 1000000000000001", "cost 0 0", "cost 0 0,0", "cost 0 1,2", "cost 0 0,1,2", "cost 5 0,1", "cost -1 0,1", "cost x 0,1", "cost 0 x", "cost 0 ", "cost  0,1", "cost  ", "cost 0 none", "cost 0,1 0",
		"best 5", "best -1", "best ", "best 1,0", "pieces 2", "pieces 3", "pieces -1", "pieces ", "last 0", "last 9", "last -1", "last ", "sort 4", "sort -1", "sort ", "sort x",
		"next ", "next ...", "next ww.", "next www", "next w", "next ..w.", "next ..W", "next none", "gap ", "gap none", "gap 0,0", "gap 0,0,0", "gap 0,1,2", "gap 0,0,1,1", "gap x", "gap 0,0,-1",
		"roster 0 1", "roster 13 1", "roster 1 0", "roster 1 129", "roster -1 1", "roster 1 -1", "roster  1", "roster 1 ", "roster  ", "roster x 1", "roster 1 x",
		"wait 0 1", "wait 1 1", "wait 2 2", "wait 2 1", "wait -1 1", "wait 65 96", "wait 1 97", "wait 1 0", "wait 1 -1", "wait  2", "wait 1 ", "wait x 2", "wait 1 x", "wait 1000000000000000 96",
	}
	for _, line := range lines {
		wantLine(t, newByHand(), line, newByHand(), "no")
	}
	d := newByHand()
	d.Jobs = []impl.Job{{Time: 1, Release: 1}, {Time: 1}}
	for _, line := range []string{"best 1", "late"} {
		wantLine(t, d, line, d, "no")
	}
	d = greatDesk()
	for _, line := range []string{"pieces 0", "late", "best 0", "next " + strings.Repeat("w", 24)} {
		wantLine(t, d, line, d, "no")
	}
	d.Rule = impl.ShiftRule{Slots: 3, Least: 3, Most: 3, Row: 1, Pause: 1}
	wantLine(t, d, "first", d, "no")
	wantLine(t, d, "shifts", d, "0")
}

// TestLinesWithWhat checks lines that have no form.
func TestLinesWithWhat(t *testing.T) {
	lines := []string{
		"", " ", "  ", "what", "no", "ok", "x", "lates", "lat", "Late", "LATE", "late\n", "late\r", "late\t", "\tlate", "late\x00", " late", "late ", "late  ", "late 0", " jobs", "jobs\tx", "jobs,x", "job", "jobss x",
		"jobs  ", "jobs 1,0,0,0 ", "jobs  1,0,0,0", "jobs 1,0,0,0 1,0,0,0", "rule 3 1", "rule 3,1,2,2,1 ", "counts 2 1", "counts 2,1 ", "pattern d d", "pattern dd. ", "order", "order 0 ", "order  0", "order 0 0", "cost", "cost 0", "cost 0 0,1 ", "cost 0 0 1", "best", "best 1 1",
		"pieces", "pieces 0 0", "last", "last 2 2", "sort", "sort 0 0", "shifts ", "shifts 1", "first ", "first 1", "next", "next ..w ", "mixed ", "mixed 1", "gap", "gap 0 0 1", "gap 0,0,1 ", "roster", "roster 2", "roster 2 3 1", "roster 2 3 ", "runs ", "runs 1", "runs dd.", "wait", "wait 1", "wait 1 2 3", "wait 1 2 ",
		"no such line", "\xff", "é", strings.Repeat(" ", 100000), strings.Repeat("late", 100000), "late" + strings.Repeat(" late", 100000), "late\nlate", "jobs\njobs", "/1", "late/1",
	}
	for _, line := range lines {
		wantLine(t, newByHand(), line, newByHand(), "what")
	}
	for _, form := range formsOfLines() {
		name, _, _ := strings.Cut(form, " ")
		for _, other := range []string{strings.ToUpper(name), name[1:], name[:len(name)-1], name + "s", name + "\n", "." + name, strings.Replace(form, " ", "  ", 1) + " 1 ", form + " a b c", " " + form} {
			wantLine(t, newByHand(), other, newByHand(), "what")
		}
	}
}

// TestLinesAtTheirLimits checks lines with as much as they take.
func TestLinesAtTheirLimits(t *testing.T) {
	d, great := newByHand(), greatDesk()
	d.Jobs = great.Jobs
	wantLine(t, newByHand(), "jobs "+jobsByHand(great.Jobs), d, "ok")
	wantLine(t, d, "jobs", d, jobsByHand(great.Jobs))
	d = newByHand()
	d.Rule = great.Rule
	wantLine(t, newByHand(), "rule 24,24,24,24,24", d, "ok")
	d = newByHand()
	d.Counts = great.Counts
	wantLine(t, newByHand(), "counts 16,16,16,16,0,0,0,0", d, "ok")
	wantLine(t, d, "mixed", d, listByHand(repeatedModels(16)))
	wantLine(t, d, "gap "+listByHand(repeatedModels(16)), d, "48")
	d = newByHand()
	d.Pattern = strings.Repeat("z", 64)
	wantLine(t, newByHand(), "pattern "+d.Pattern, d, "ok")
	wantLine(t, d, "runs", d, "64,0")
	wantLine(t, d, "roster 12 128", d, strings.TrimSuffix(strings.Repeat(strings.Repeat("z", 128)+",", 12), ","))
	wantLine(t, great, "cost 0 "+listByHand(upwards(24)), great, "250000")
	wantLine(t, great, "cost 1 "+listByHand(upwards(24)), great, "32400000000")
	wantLine(t, great, "last 1", great, listByHand(make([]int64, 24))+";240000")
	wantLine(t, great, "first", great, strings.Repeat("w", 24))
	wantLine(t, great, "wait 64 65", great, fmt.Sprintf("%08x", bitsOf(waitOf(64, 65))))
	wantLine(t, great, "wait 64 96", great, fmt.Sprintf("%08x", bitsOf(waitOf(64, 96))))
	ten := newByHand()
	ten.Jobs = repeated(impl.Job{Time: 1}, impl.MaxSearch)
	wantLine(t, ten, "best 0", ten, "0,1,2,3,4,5,6,7,8,9;10")
	ten.Jobs = repeated(impl.Job{Time: 1}, impl.MaxSearch+1)
	wantLine(t, ten, "best 0", ten, "no")
	wantLine(t, ten, "late", ten, "none;11")
	ten.Jobs = []impl.Job{{Time: 5000, Release: 5000}}
	wantLine(t, ten, "pieces 1", ten, "10000;1")
	ten.Jobs[0].Time++
	wantLine(t, ten, "pieces 1", ten, "no")
}

// repeatedModels returns an order of four models, one after another.
func repeatedModels(times int) []int64 {
	var order []int64
	for range times {
		order = append(order, 0, 1, 2, 3)
	}
	return order
}

// waitOf returns a chance that is known to be.
func waitOf(load float32, servers int64) float32 {
	chance, _ := impl.WaitChance(load, servers)
	return chance
}

// TestDeskOutputsWhatFunctionsTell carries out drawn lines, one after another, and by hand, too.
func TestDeskOutputsWhatFunctionsTell(t *testing.T) {
	r := drawer(504)
	told := map[string]int{}
	for range 400 {
		d := drawDesk(r)
		for range 60 {
			line := drawDeskLine(r, d)
			after, output := lineByHand(d, line)
			wantLine(t, d, line, after, output)
			if output != "no" && output != "what" {
				told[(&hand{words: strings.Split(line, " ")}).form()]++
			}
			d = after
		}
	}
	// Each form must have been told often, so that all of them are looked at.
	for _, form := range formsOfLines() {
		if count := told[fmt.Sprintf("%s/%d", strings.Split(form, " ")[0], strings.Count(form, " ")+1)]; count < 50 {
			t.Errorf("lines with the form %s told something %d times", form, count)
		}
	}
}

func TestDeskCommandFails(t *testing.T) {
	for _, d := range badDesks() {
		for _, line := range []string{"", "jobs", "pattern d", "late", "jobs 1,0,0,0", "rule 3,1,2,2,1", "counts 2,1", "x"} {
			after, output, ok := impl.DeskCommand(d, line)
			want(t, "a desk that is not valid", !ok && output == "" && isNone(after), true)
		}
	}
}
