package tests

import (
	"slices"
	"strings"
	"testing"

	"loop.example/g01389/impl"
)

// A deskAsking is what functions of chapter 8 are asked for.
type deskAsking struct {
	desk, other           impl.Desk
	line, script, journal string
	jobs, rule, outputs   string
	lines                 []string
}

// changed returns an asking with other lists.
func (a deskAsking) changed(jobs func([]impl.Job) []impl.Job, counts func([]int64) []int64, lines func([]string) []string) deskAsking {
	for _, d := range []*impl.Desk{&a.desk, &a.other} {
		d.Jobs, d.Counts, d.Pattern = jobs(d.Jobs), counts(d.Counts), strings.Clone(d.Pattern)
	}
	a.lines = lines(a.lines)
	for i, line := range a.lines {
		a.lines[i] = strings.Clone(line)
	}
	for _, s := range []*string{&a.line, &a.script, &a.journal, &a.jobs, &a.rule, &a.outputs} {
		*s = strings.Clone(*s)
	}
	return a
}

// copied returns an asking that shares no memory with a, without any room behind its lists.
func (a deskAsking) copied() deskAsking { return a.changed(tight, tight, tight) }

// withRoom returns a copy of an asking, the lists of which have room behind them.
func (a deskAsking) withRoom() deskAsking {
	return a.changed(roomy(impl.Job{Time: 5}), roomy[int64](5), roomy("late"))
}

// whole returns all lists of an asking, with the room behind them.
func (a deskAsking) whole() string {
	w := &telling{}
	for _, d := range []impl.Desk{a.desk, a.other} {
		w.add(d.Jobs[:cap(d.Jobs)], d.Rule, d.Counts[:cap(d.Counts)], d.Pattern)
	}
	w.add(a.lines[:cap(a.lines)])
	return w.String()
}

// spoilDesk tells a desk, and then changes all of its memory.
func spoilDesk(w *telling, d impl.Desk) {
	w.add(d.Rule, d.Pattern)
	spoil(w, d.Jobs, impl.Job{Time: -77})
	spoil(w, d.Counts, -77)
}

// ofDesks tells the results of all functions of chapter 8, and spoils each list that is returned.
func ofDesks(a deskAsking) string {
	w := &telling{}
	text := func(s string, ok bool) { w.add(s, ok) }
	desk := func(d impl.Desk, output string, ok bool) { w.add(output, ok); spoilDesk(w, d) }
	w.add(impl.ValidDesk(a.desk), impl.SameDesk(a.desk, a.other), impl.SameDesk(a.desk, a.desk))
	spoilDesk(w, impl.NewDesk())
	text(impl.JobsText(a.desk.Jobs))
	text(impl.RuleText(a.desk.Rule))
	jobs, ok := impl.ReadJobs(a.jobs)
	w.add(ok)
	spoil(w, jobs, impl.Job{Time: -77})
	rule, ok := impl.ReadRule(a.rule)
	w.add(rule, ok)
	for _, d := range []impl.Desk{a.desk, a.other} {
		desk(impl.DeskCommand(d, a.line))
		desk(impl.RunDesk(d, a.script))
		after, n, ok := impl.RunJournal(d, a.journal)
		w.add(n, ok)
		spoilDesk(w, after)
		for _, line := range a.lines {
			desk(impl.DeskCommand(d, line))
		}
	}
	vain, others, ok := impl.CountOutputs(a.outputs)
	w.add(vain, others, ok)
	text(impl.JournalOf(a.lines))
	lines, n, ok := impl.RecoverJournal(a.journal)
	w.add(n, ok)
	spoil(w, lines, "spoiled")
	return w.String()
}

// drawDeskAsking returns arguments with which most functions succeed, and all lists have room behind them.
func drawDeskAsking(seed uint64) deskAsking {
	r := drawer(seed)
	a := deskAsking{desk: drawDesk(r), other: drawDesk(r), lines: drawLines(r, 1+r.IntN(30))}
	a.line = drawDeskLine(r, a.desk)
	a.script, a.journal = strings.Join(a.lines, "\n")+"\n", journalByHand(a.lines)
	a.jobs, a.rule, a.outputs = jobsByHand(drawDesk(r).Jobs), shiftRuleByHand(drawDesk(r).Rule), outputsByHand(a.desk, a.lines)
	return a.withRoom()
}

// TestDesksKeepArguments calls all functions of chapter 8 twice with lists that have room behind them.
func TestDesksKeepArguments(t *testing.T) {
	for seed := range uint64(200) {
		a := drawDeskAsking(7000 + seed)
		before := a.whole()
		first := ofDesks(a)
		want(t, "arguments", a.whole(), before)
		want(t, "results for the same arguments", ofDesks(a), first)
		want(t, "results for equal arguments", ofDesks(a.copied()), first)
		want(t, "arguments in the end", a.whole(), before)
	}
}

// TestLinesShareNoMemory checks that the desk behind each line, even one that changes nothing, is new memory.
func TestLinesShareNoMemory(t *testing.T) {
	for _, form := range append(formsOfLines(), "jobs x", "rule x", "counts 0", "counts x", "pattern X", "order 9", "best 9", "sort 0", "sort 1", "sort 2", "sort 9", "next w", "gap 0", "x", "", "late 1", "jobs 1,0,0,0", "counts 3") {
		d := newByHand()
		for _, run := range []func(){
			func() { after, _, _ := impl.DeskCommand(d, form); spoilDesk(&telling{}, after) },
			func() { after, _, _ := impl.RunDesk(d, form+"\n"); spoilDesk(&telling{}, after) },
			func() { after, _, _ := impl.RunDesk(d, ""); spoilDesk(&telling{}, after) },
			func() { after, _, _ := impl.RunJournal(d, journalByHand([]string{form})); spoilDesk(&telling{}, after) },
			func() { after, _, _ := impl.RunJournal(d, ""); spoilDesk(&telling{}, after) },
		} {
			run()
			want(t, "the desk before "+form, isSame(d, newByHand()), true)
		}
	}
}

// TestDesksReturnForAll calls all functions of chapter 8 with arguments of all kinds.
func TestDesksReturnForAll(t *testing.T) {
	r := drawer(510)
	any, many := pickers(r, append(wildNumbers(), 3, 16, 17, 64, 65))
	wrong, strange := badDesks(), strangeWords()
	text := func() string {
		var s strings.Builder
		for range r.IntN(6) {
			s.WriteString(strange[r.IntN(len(strange))])
			s.WriteString([]string{"", " ", "\n", ",", ";"}[r.IntN(5)])
		}
		return s.String()
	}
	for range 2000 {
		a := drawDeskAsking(r.Uint64())
		d := impl.Desk{Counts: many(r.IntN(10)), Pattern: text(), Rule: impl.ShiftRule{Slots: any(), Least: any(), Most: any(), Row: any(), Pause: any()}}
		for range r.IntN(26) {
			d.Jobs = append(d.Jobs, impl.Job{Time: any(), Release: any(), Due: any(), Weight: any()})
		}
		if r.IntN(2) == 0 {
			d = wrong[r.IntN(len(wrong))]
		}
		a.other, a.line, a.jobs, a.rule, a.outputs = d, text(), text(), text(), text()
		if r.IntN(2) == 0 {
			a.script, a.journal = text(), a.journal[:r.IntN(len(a.journal))]+text()
		}
		a.lines[r.IntN(len(a.lines))] = text()
		want(t, "results for equal arguments", ofDesks(a.copied()), ofDesks(a))
	}
}

// TestDesksReturnForLongTexts calls them with texts and lists that are far too long.
func TestDesksReturnForLongTexts(t *testing.T) {
	const far = 300000
	d := impl.Desk{Jobs: repeated(impl.Job{Time: 1}, far), Rule: exampleRule(), Counts: repeated[int64](1, far), Pattern: strings.Repeat("d", far)}
	for _, s := range []string{"", " ", "\n", ",", ";", "0", "0 \n", "late\n", "1,0,0,0;", "\xff"} {
		s = strings.Repeat(s, far)
		a := deskAsking{desk: newByHand(), other: d, line: s, script: s, journal: s, jobs: s, rule: s, outputs: s, lines: []string{s, "jobs " + s, "pattern " + s, "next " + s, "order " + s, "gap " + s}}
		want(t, "results for long texts", ofDesks(a.copied()), ofDesks(a))
	}
}

// TestDesksReturnForGreatScripts carries out as many lines as there can be, with as much to do as they have.
func TestDesksReturnForGreatScripts(t *testing.T) {
	for _, c := range []lineCase{
		{"jobs " + strings.Repeat("300,0,5,9;", impl.MaxSearch-1) + "300,0,5,9\n", "best 3\n"},
		{"jobs " + strings.Repeat("350,0,5,9;", impl.MaxJobs-1) + "350,1600,5,9\n", "pieces 0\n"},
		{"rule 24,12,12,2,1\n", "first\n"}, {"rule 24,0,24,12,4\n", "shifts\n"}, {"pattern abc\n", "roster 12 128\n"},
	} {
		count := (impl.MaxScript - len(c.line)) / len(c.output)
		_, outputs, ok := impl.RunDesk(newByHand(), c.line+strings.Repeat(c.output, count))
		lines := strings.Split(outputs, "\n")
		want(t, "outputs of "+c.output, ok && len(lines) == count+2 && lines[0] == "ok" && lines[1] != "no" && lines[1] != "what", true)
		want(t, "the same outputs of "+c.output, len(slices.Compact(lines[1:len(lines)-1])), 1)
	}
}

// TestDesksTakeNilAsEmpty checks that nil and empty lists are the same.
func TestDesksTakeNilAsEmpty(t *testing.T) {
	without := deskAsking{line: "late", script: "late\n", outputs: "ok\n"}
	none := without
	none.desk, none.other, none.lines = impl.Desk{Jobs: []impl.Job{}, Counts: []int64{}}, impl.Desk{Jobs: []impl.Job{}, Counts: []int64{}}, []string{}
	want(t, "results for empty lists", ofDesks(none), ofDesks(without))
	journal, ok := impl.JournalOf([]string{})
	want(t, "the journal of an empty list", ok && journal == "", true)
}
