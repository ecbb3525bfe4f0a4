package tests

import (
	"fmt"
	"strings"
	"testing"

	"loop.example/g01389/impl"
)

func TestValidDesk(t *testing.T) {
	r := drawer(501)
	least := impl.Desk{Jobs: []impl.Job{{Time: 1}}, Rule: impl.ShiftRule{Slots: 1, Row: 1, Pause: 1}, Counts: []int64{1}, Pattern: "."}
	desks := []impl.Desk{newByHand(), greatDesk(), least, {Jobs: least.Jobs, Rule: least.Rule, Counts: []int64{0, 16}, Pattern: rosterLetters}}
	for range 100 {
		desks = append(desks, drawDesk(r))
	}
	for _, d := range desks {
		want(t, fmt.Sprint("valid ", d), impl.ValidDesk(d), true)
	}
	for _, d := range badDesks() {
		want(t, fmt.Sprint("not valid ", d.Jobs, d.Rule, d.Counts), impl.ValidDesk(d), false)
	}
}

func TestNewDesk(t *testing.T) {
	d := impl.NewDesk()
	want(t, "a new desk", isSame(d, newByHand()) && impl.ValidDesk(d), true)
	d.Jobs[0].Time, d.Counts[0] = 77, 7
	want(t, "another new desk", isSame(impl.NewDesk(), newByHand()), true)
}

func TestSameDesk(t *testing.T) {
	all := append(badDesks(), newByHand(), greatDesk())
	for i, d := range all {
		want(t, "the same", impl.SameDesk(d, copyOfDesk(d)), true)
		for k, other := range all {
			if !isSame(d, other) {
				want(t, fmt.Sprint("others ", i, k), impl.SameDesk(d, other), false)
			}
		}
	}
	want(t, "nil and empty", impl.SameDesk(impl.Desk{}, impl.Desk{Jobs: []impl.Job{}, Counts: []int64{}}), true)
	for i, change := range []func(d *impl.Desk){
		func(d *impl.Desk) { d.Jobs[1].Time++ }, func(d *impl.Desk) { d.Jobs[0].Release++ }, func(d *impl.Desk) { d.Jobs[0].Due++ }, func(d *impl.Desk) { d.Jobs[1].Weight++ },
		func(d *impl.Desk) { d.Jobs[0], d.Jobs[1] = d.Jobs[1], d.Jobs[0] }, func(d *impl.Desk) { d.Jobs = d.Jobs[:1] }, func(d *impl.Desk) { d.Jobs = nil },
		func(d *impl.Desk) { d.Rule.Slots++ }, func(d *impl.Desk) { d.Rule.Least-- }, func(d *impl.Desk) { d.Rule.Most++ }, func(d *impl.Desk) { d.Rule.Row-- }, func(d *impl.Desk) { d.Rule.Pause++ },
		func(d *impl.Desk) { d.Counts[1]++ }, func(d *impl.Desk) { d.Counts = append(d.Counts, 0) }, func(d *impl.Desk) { d.Counts = []int64{1, 2} }, func(d *impl.Desk) { d.Counts = nil },
		func(d *impl.Desk) { d.Pattern = "dd" }, func(d *impl.Desk) { d.Pattern = "d.d" }, func(d *impl.Desk) { d.Pattern = "dd.." }, func(d *impl.Desk) { d.Pattern = "" },
	} {
		d := newByHand()
		change(&d)
		want(t, fmt.Sprint("changed ", i), impl.SameDesk(d, newByHand()) || impl.SameDesk(newByHand(), d), false)
	}
}

func TestJobsText(t *testing.T) {
	wantTold(t, "the jobs of a new desk", told(impl.JobsText(newByHand().Jobs)), "2,0,4,1;1,0,2,1")
	wantTold(t, "one job", told(impl.JobsText([]impl.Job{{Time: 1}})), "1,0,0,0")
	wantTold(t, "each number", told(impl.JobsText([]impl.Job{{Time: 1, Release: 2, Due: 3, Weight: 4}})), "1,2,3,4")
	most := strings.TrimSuffix(strings.Repeat("10000,10000,10000,10000;", impl.MaxJobs), ";")
	wantTold(t, "as much as can be", told(impl.JobsText(greatDesk().Jobs)), most)
	wantTold(t, "as much as can be, read", told(impl.ReadJobs(most)), greatDesk().Jobs)
	wantNotTold(t, "one more, read", told(impl.ReadJobs(most+";1,0,0,0")))
	r := drawer(502)
	for range 200 {
		jobs := drawJobs(r, 1+r.IntN(impl.MaxJobs), 9)
		wantTold(t, "drawn jobs", told(impl.JobsText(jobs)), jobsByHand(jobs))
		wantTold(t, "drawn jobs, read", told(impl.ReadJobs(jobsByHand(jobs))), jobs)
	}
	for _, jobs := range badJobs() {
		wantNotTold(t, "jobs that are not valid", told(impl.JobsText(jobs)))
		wantNotTold(t, "jobs that are not valid, read", told(impl.ReadJobs(jobsByHand(jobs))))
	}
}

func TestReadJobsFails(t *testing.T) {
	bad := []string{
		"", ";", ",", "none", "none;none", "none;1,0,0,0", "1,0,0,0;none", "1", "1,0,0", "1,0,0,0,0", "1,0,0,0;", ";1,0,0,0", "1,0,0,0;;1,0,0,0", "1,0,0,0;1,0,0", "1,0,0,0;1,0,0,0,0",
		"1,0,0,0,1,0,0,0", "1;0;0;0", "1,0,0,0 ", " 1,0,0,0", "1, 0,0,0", "1,0,0,0\n", "1,0,0,0; 1,0,0,0", "1,0,0,0\x00", "01,0,0,0", "1,00,0,0", "1,-0,0,0", "+1,0,0,0", "1,0,0,x", "1,0,,0", "1.0,0,0,0", "1e1,0,0,0",
		"0,0,0,0", "10001,0,0,0", "1,-1,0,0", "1,0,10001,0", "1,0,0,9223372036854775807", "1,0,0,99999999999999999999", "-1,0,0,0", "１,0,0,0", "2,0,4,1:1,0,2,1", "2,0,4,1;1,0,2,1;", "jobs",
		strings.Repeat("1,0,0,0;", impl.MaxJobs) + "1,0,0,0", strings.Repeat("1,0,0,0;", 100000), strings.Repeat(";", 300000), strings.Repeat("1,", 300000),
	}
	for _, text := range bad {
		wantNotTold(t, fmt.Sprintf("read %.40q", text), told(impl.ReadJobs(text)))
	}
	for _, text := range brokenTexts("2,0,4,1;10,3,10000,1") {
		if jobs, ok := impl.ReadJobs(text); ok {
			want(t, "what is read has the text", impl.AreJobs(jobs) && jobsByHand(jobs) == text, true)
		} else {
			want(t, "nothing where it fails", len(jobs), 0)
		}
	}
}

func TestRuleText(t *testing.T) {
	wantTold(t, "the rule of a new desk", told(impl.RuleText(exampleRule())), "3,1,2,2,1")
	wantTold(t, "each number", told(impl.RuleText(impl.ShiftRule{Slots: 9, Least: 2, Most: 5, Row: 4, Pause: 3})), "9,2,5,4,3")
	wantTold(t, "each number, read", told(impl.ReadRule("9,2,5,4,3")), impl.ShiftRule{Slots: 9, Least: 2, Most: 5, Row: 4, Pause: 3})
	wantTold(t, "as much as can be", told(impl.RuleText(greatDesk().Rule)), "24,24,24,24,24")
	r := drawer(503)
	for range 200 {
		rule := drawShiftRule(r, 1+r.Int64N(impl.MaxSlots))
		wantTold(t, "a drawn rule", told(impl.RuleText(rule)), shiftRuleByHand(rule))
		wantTold(t, "a drawn rule, read", told(impl.ReadRule(shiftRuleByHand(rule))), rule)
	}
	for _, rule := range badShiftRules() {
		wantNotTold(t, "a rule that is not valid", told(impl.RuleText(rule)))
		wantNotTold(t, "a rule that is not valid, read", told(impl.ReadRule(shiftRuleByHand(rule))))
	}
}

func TestReadRuleFails(t *testing.T) {
	bad := []string{
		"", ",", "none", "3", "3,1,2,2", "3,1,2,2,1,1", "3,1,2,2,1,", ",3,1,2,2,1", "3,1,2,2,", "3,1,2,,2,1", "3;1;2;2;1", "3,1,2,2;1", "3,1,2,2,1;", "3,1,2,2,1;3,1,2,2,1", "3,1,2,2,1 ", " 3,1,2,2,1", "3,1, 2,2,1", "3,1,2,2,1\n",
		"03,1,2,2,1", "3,1,2,2,+1", "3,-0,2,2,1", "3,1,2,2,x", "0,0,0,0,0", "0,0,0,1,1", "25,1,2,2,1", "3,3,2,2,1", "3,1,4,2,1", "3,1,2,4,1", "3,1,2,0,1", "3,1,2,2,0", "3,1,2,2,4", "3,-1,2,2,1", "rule", strings.Repeat("3,", 300000),
	}
	for _, text := range bad {
		wantNotTold(t, fmt.Sprintf("read %.40q", text), told(impl.ReadRule(text)))
	}
	for _, text := range brokenTexts("12,1,10,2,11") {
		if rule, ok := impl.ReadRule(text); ok {
			want(t, "what is read has the text", impl.ValidRule(rule) && shiftRuleByHand(rule) == text, true)
		} else {
			want(t, "nothing where it fails", rule, impl.ShiftRule{})
		}
	}
}
