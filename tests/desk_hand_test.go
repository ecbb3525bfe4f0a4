package tests

import (
	"fmt"
	"math/rand/v2"
	"regexp"
	"strconv"
	"strings"

	"loop.example/g01389/impl"
)

// The texts of numbers, of lists, of jobs and of rules.
var (
	numberTexts  = regexp.MustCompile(`\A(0|-?[1-9][0-9]{0,14}|-?1000000000000000)\z`)
	listTexts    = regexp.MustCompile(`\A(none|(-?[0-9]+,){0,63}-?[0-9]+)\z`)
	jobsTexts    = regexp.MustCompile(`\A([0-9]+,[0-9]+,[0-9]+,[0-9]+;){0,23}[0-9]+,[0-9]+,[0-9]+,[0-9]+\z`)
	ruleTexts    = regexp.MustCompile(`\A[0-9]+,[0-9]+,[0-9]+,[0-9]+,[0-9]+\z`)
	patternTexts = regexp.MustCompile(`\A[a-z.]{1,64}\z`)
)

// A hand carries out a line, and tells whether it can.
type hand struct {
	words []string
	fine  bool
}

// need tells whether something can be done.
func (h *hand) need(fine bool) { h.fine = h.fine && fine }

// numberIn returns the number of a text.
func (h *hand) numberIn(s string) int64 {
	h.need(numberTexts.MatchString(s))
	n, _ := strconv.ParseInt(s, 10, 64)
	return n
}

// number returns the number that a word is, and list the list.
func (h *hand) number(place int) int64 { return h.numberIn(h.words[place]) }

func (h *hand) list(place int) []int64 { return h.listIn(h.words[place]) }

// listIn returns the list of a text.
func (h *hand) listIn(s string) []int64 {
	h.need(listTexts.MatchString(s))
	var list []int64
	for _, item := range strings.Split(s, ",") {
		if s != "none" {
			list = append(list, h.numberIn(item))
		}
	}
	return list
}

// jobs returns the jobs that a word is.
func (h *hand) jobs(place int) []impl.Job {
	h.need(jobsTexts.MatchString(h.words[place]))
	var jobs []impl.Job
	for _, text := range strings.Split(h.words[place], ";") {
		if list := h.listIn(text); h.fine {
			jobs = append(jobs, impl.Job{Time: list[0], Release: list[1], Due: list[2], Weight: list[3]})
		}
	}
	return jobs
}

// rule returns the rule that a word is.
func (h *hand) rule(place int) impl.ShiftRule {
	h.need(ruleTexts.MatchString(h.words[place]))
	list := h.listIn(h.words[place])
	if !h.fine {
		return impl.ShiftRule{}
	}
	return impl.ShiftRule{Slots: list[0], Least: list[1], Most: list[2], Row: list[3], Pause: list[4]}
}

// The texts of what functions return.
func (h *hand) listOf(list []int64, ok bool) string {
	h.need(ok)
	return listByHand(list)
}

func (h *hand) numberOf(n int64, ok bool) string {
	h.need(ok)
	return fmt.Sprint(n)
}

func (h *hand) planOf(list []int64, n int64, ok bool) string {
	return h.listOf(list, ok) + ";" + h.numberOf(n, ok)
}

// lineByHand returns the desk behind a line at a valid desk, and its output.
func lineByHand(d impl.Desk, line string) (impl.Desk, string) {
	h := &hand{strings.Split(line, " "), true}
	after := copyOfDesk(d)
	output, known := h.changeByHand(&after)
	if !known {
		output, known = h.tellByHand(d)
	}
	if !known {
		return d, "what"
	}
	h.need(impl.AreJobs(after.Jobs) && impl.ValidRule(after.Rule) && patternTexts.MatchString(after.Pattern))
	_, counted := impl.MixedOrder(after.Counts)
	h.need(counted)
	if !h.fine {
		return d, "no"
	}
	return after, output
}

// form tells the first word of a line, and how many words it has.
func (h *hand) form() string { return fmt.Sprintf("%s/%d", h.words[0], len(h.words)) }

// changeByHand carries out a line that can change a desk, if it is one.
func (h *hand) changeByHand(d *impl.Desk) (string, bool) {
	switch h.form() {
	case "jobs/2":
		d.Jobs = h.jobs(1)
	case "rule/2":
		d.Rule = h.rule(1)
	case "counts/2":
		d.Counts = h.list(1)
	case "pattern/2":
		d.Pattern = h.words[1]
	case "sort/2":
		order, ok := impl.OrderBy(d.Jobs, h.number(1))
		h.need(ok)
		var jobs []impl.Job
		for _, i := range order {
			jobs = append(jobs, d.Jobs[i])
		}
		d.Jobs = jobs
	default:
		return "", false
	}
	return "ok", true
}

// tellByHand carries out any other line, if it has a form.
func (h *hand) tellByHand(d impl.Desk) (string, bool) {
	switch h.form() {
	case "jobs/1":
		return jobsByHand(d.Jobs), true
	case "rule/1":
		return shiftRuleByHand(d.Rule), true
	case "counts/1":
		return listByHand(d.Counts), true
	case "pattern/1":
		return d.Pattern, true
	case "order/2":
		return h.listOf(impl.OrderBy(d.Jobs, h.number(1))), true
	case "cost/3":
		return h.numberOf(impl.CostOf(d.Jobs, h.list(2), h.number(1))), true
	case "best/2":
		return h.planOf(impl.BestOrder(d.Jobs, h.number(1))), true
	case "late/1":
		return h.planOf(impl.FewestLate(d.Jobs)), true
	case "pieces/2":
		ends, pieces, ok := impl.PieceEnds(d.Jobs, h.number(1))
		return h.listOf(ends, ok) + ";" + h.listOf(pieces, ok), true
	case "last/2":
		var times []int64
		for _, job := range d.Jobs {
			times = append(times, job.Time)
		}
		return h.planOf(impl.LongestFirst(times, h.number(1))), true
	case "mixed/1":
		return h.listOf(impl.MixedOrder(d.Counts)), true
	case "gap/2":
		return h.numberOf(impl.MixedGap(d.Counts, h.list(1))), true
	}
	return h.tellPeopleByHand(d)
}

// tellPeopleByHand carries out a line about people, if it is one.
func (h *hand) tellPeopleByHand(d impl.Desk) (string, bool) {
	switch h.form() {
	case "shifts/1":
		return h.numberOf(impl.CountShifts(d.Rule)), true
	case "first/1":
		shifts, ok := impl.FirstShifts(d.Rule, 64)
		h.need(ok && len(shifts) > 0)
		return strings.Join(append(shifts, "")[:1], ""), true
	case "next/2":
		next, ok := impl.NextShift(d.Rule, h.words[1])
		h.need(ok)
		return next, true
	case "roster/3":
		roster, ok := impl.RotateRoster(d.Pattern, h.number(1), h.number(2), 1)
		h.need(ok)
		return strings.Join(roster, ","), true
	case "runs/1":
		worked, free, ok := impl.RosterRuns(d.Pattern)
		return h.listOf([]int64{worked, free}, ok), true
	case "wait/3":
		chance, ok := impl.WaitChance(float32(h.number(1)), h.number(2))
		h.need(ok)
		return fmt.Sprintf("%08x", bitsOf(chance)), true
	}
	return "", false
}

// formsOfLines are all forms, each with letters that tell what its words behind the first one are:
// n a small number, o an order, j jobs, r a rule, c counts, p a pattern, s a shift, g an order of models, m many.
func formsOfLines() []string {
	return []string{
		"jobs", "rule", "counts", "pattern", "jobs j", "rule r", "counts c", "pattern p", "order n", "cost n o", "best n", "late", "pieces n",
		"last n", "sort n", "shifts", "first", "next s", "mixed", "gap g", "roster n m", "runs", "wait n m",
	}
}

// drawWord returns a word of some kind, which is often right at a desk.
func drawWord(r *rand.Rand, d impl.Desk, kind string) string {
	other := drawDesk(r)
	switch kind {
	case "n":
		return fmt.Sprint(r.IntN(6))
	case "m":
		return fmt.Sprint(r.IntN(12) * r.IntN(12))
	case "o":
		return listByHand(drawOrder(r, len(d.Jobs)))
	case "j":
		return jobsByHand(other.Jobs)
	case "r":
		return shiftRuleByHand(other.Rule)
	case "c":
		return listByHand(other.Counts)
	case "p":
		return other.Pattern
	case "s":
		shifts, _ := impl.FirstShifts(d.Rule, 64)
		return append(shifts, "..", "w")[r.IntN(len(shifts)+2)]
	case "g":
		order, _ := impl.MixedOrder(d.Counts)
		r.Shuffle(len(order), func(i, k int) { order[i], order[k] = order[k], order[i] })
		return listByHand(order)
	}
	return kind
}

// drawLine returns a line that is often right at a desk.
func drawDeskLine(r *rand.Rand, d impl.Desk) string {
	all := formsOfLines()
	words := strings.Split(all[r.IntN(len(all))], " ")
	for i := 1; i < len(words); i++ {
		words[i] = drawWord(r, d, words[i])
	}
	// Some lines have a word too much, or too few, or one of another kind.
	switch strange := strangeWords(); r.IntN(12) {
	case 0:
		words = append(words, strange[r.IntN(len(strange))])
	case 1:
		words = words[:max(1, len(words)-1)]
	case 2:
		words[r.IntN(len(words))] = strange[r.IntN(len(strange))]
	case 3:
		words[len(words)-1] = drawWord(r, d, []string{"n", "m", "o", "j", "r", "c", "p", "s", "g"}[r.IntN(9)])
	}
	return strings.Join(words, " ")
}

// strangeWords are words that are seldom right.
func strangeWords() []string {
	return []string{
		"", "none", "no", "what", "ok", "x", "-1", "-0", "00", "01", "+1", "1.0", "1e1", "0x1", "１", "\t", "\n", "\r", "\x00", "\xff", "é", "1\n", "1,", ",1", "0,0", "1;1", "Jobs", "jobs\n",
		"1000000000000000", "1000000000000001", "-1000000000000000", "9223372036854775807", "9223372036854775808", "-9223372036854775808", "99999999999999999999", "24", "25", "64", "65", "96", "97", "128", "129", "...", "www", ".W.",
	}
}
