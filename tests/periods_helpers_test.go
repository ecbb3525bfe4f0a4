package tests

import (
	"math"
	"math/rand/v2"
	"slices"
	"testing"

	"loop.example/g01389/impl"
)

// TestLimitsOfPeriods checks the limits that chapter 5 names.
func TestLimitsOfPeriods(t *testing.T) {
	want(t, "MaxEvents", impl.MaxEvents, 12)
	want(t, "MaxRules", impl.MaxRules, 32)
	want(t, "MaxPeriod", impl.MaxPeriod, 60)
	want(t, "MaxBlocks", impl.MaxBlocks, 12)
}

// TestPeriodsExample checks the examples at the end of chapter 5.
func TestPeriodsExample(t *testing.T) {
	wantPeriod(t, "two arcs around two nodes", periodOf(impl.PeriodOf(2, twoArcs())), 7, 1)
	rules := []impl.Rule{{From: 0, To: 1, Least: 2, Most: 3}}
	wantTold(t, "tables of two events", told(impl.CountTables(2, rules, 10)), 2)
	for _, times := range allTables(2, 10) {
		kept := times[1] == 2 || times[1] == 3
		wantTold(t, "a table of two events", told(impl.KeepsRules(2, rules, 10, times)), kept)
	}
	wantTold(t, "the first one", told(impl.FirstTable(2, rules, 10)), []int64{0, 2})
	wantTold(t, "trains in two blocks", told(impl.LeastHead([]int64{2, 3}, []int64{2, 3})), 3)
}

// twoArcs are those of the examples.
func twoArcs() []impl.Arc {
	return []impl.Arc{{From: 0, To: 1, Long: 3, Marks: 0}, {From: 1, To: 0, Long: 4, Marks: 1}}
}

// A fraction is what PeriodOf returns.
type fraction struct {
	long, by int64
	ok       bool
}

// periodOf takes what PeriodOf, or RingGap, returns.
func periodOf(long, by int64, ok bool) fraction { return fraction{long, by, ok} }

// wantPeriod fails if a fraction is another one.
func wantPeriod(t *testing.T, what string, got fraction, long, by int64) {
	t.Helper()
	want(t, what, got, fraction{long, by, true})
}

// drawArcs returns arcs with small numbers, so that there are many equal sums.
func drawArcs(r *rand.Rand, nodes int64, count int, marks int64) []impl.Arc {
	arcs := make([]impl.Arc, count)
	for i := range arcs {
		arcs[i] = impl.Arc{From: r.Int64N(nodes), To: r.Int64N(nodes), Long: r.Int64N(5), Marks: r.Int64N(marks + 1)}
	}
	return arcs
}

// drawMarkedArcs returns arcs, each ring of which has a mark: those that do not lead upwards have one.
func drawMarkedArcs(r *rand.Rand, nodes int64, count int, marks int64) []impl.Arc {
	arcs := drawArcs(r, nodes, count, marks)
	names := drawOrder(r, int(nodes))
	for i, arc := range arcs {
		if arc.To <= arc.From {
			arcs[i].Marks = max(1, arc.Marks)
		}
		arcs[i].From, arcs[i].To = names[arc.From], names[arc.To]
	}
	return arcs
}

// isRingByHand reports whether indices are those of a ring that begins at its least node.
func isRingByHand(arcs []impl.Arc, ring []int64) bool {
	seen := map[int64]bool{}
	for place, i := range ring {
		before := ring[(place+len(ring)-1)%len(ring)]
		if arcs[i].From != arcs[before].To || seen[arcs[i].From] || arcs[i].From < arcs[ring[0]].From {
			return false
		}
		seen[arcs[i].From] = true
	}
	return true
}

// allRings returns all rings, those with fewer arcs first, and then in the order of their indices, after a look at all lists of indices.
func allRings(nodes int64, arcs []impl.Arc) [][]int64 {
	var rings [][]int64
	lists := [][]int64{nil}
	for range nodes {
		var longer [][]int64
		for _, list := range lists {
			for i := range int64(len(arcs)) {
				// What does not go on is no beginning of a ring.
				if len(list) > 0 && arcs[list[len(list)-1]].To != arcs[i].From {
					continue
				}
				next := append(slices.Clone(list), i)
				longer = append(longer, next)
				if isRingByHand(arcs, next) {
					rings = append(rings, next)
				}
			}
		}
		lists = longer
	}
	return rings
}

// sumsByHand returns the sums of Long and of Marks.
func sumsByHand(arcs []impl.Arc, ring []int64) (long, marks int64) {
	for _, i := range ring {
		long += arcs[i].Long
		marks += arcs[i].Marks
	}
	return long, marks
}

// hasUnmarked reports whether one of some rings has no mark.
func hasUnmarked(arcs []impl.Arc, rings [][]int64) bool {
	return slices.ContainsFunc(rings, func(ring []int64) bool {
		_, marks := sumsByHand(arcs, ring)
		return marks == 0
	})
}

// badArcs returns lists that are no arcs of two nodes, each of which has one number that is wrong by 1, or one arc too many.
func badArcs() [][]impl.Arc {
	good := impl.Arc{From: 0, To: 1, Marks: 1}
	lists := [][]impl.Arc{nil, {}, repeated(good, impl.MaxRules+1)}
	for _, bad := range []impl.Arc{
		{From: -1, Marks: 1}, {From: 2, Marks: 1}, {From: math.MinInt64, Marks: 1}, {From: math.MaxInt64, Marks: 1},
		{To: -1, Marks: 1}, {To: 2, Marks: 1}, {To: math.MinInt64, Marks: 1}, {To: math.MaxInt64, Marks: 1},
		{Long: -1, Marks: 1}, {Long: 1001, Marks: 1}, {Long: math.MinInt64, Marks: 1}, {Long: math.MaxInt64, Marks: 1},
		{Marks: -1}, {Marks: 11}, {Marks: math.MinInt64}, {Marks: math.MaxInt64},
	} {
		lists = append(lists, []impl.Arc{bad}, append(repeated(good, impl.MaxRules-1), bad), []impl.Arc{good, {From: 1, To: 0, Marks: 1}, bad})
	}
	return lists
}

// drawRules returns rules that often can be kept.
func drawRules(r *rand.Rand, events int64, count int, period int64) []impl.Rule {
	var rules []impl.Rule
	for range count {
		if events == 1 {
			break
		}
		from, least := r.Int64N(events), r.Int64N(period)
		to := (from + 1 + r.Int64N(events-1)) % events
		rules = append(rules, impl.Rule{From: from, To: to, Least: least, Most: least + r.Int64N(period)})
	}
	return rules
}

// waitByHand tries one wait after another, from Least on.
func waitByHand(rule impl.Rule, period int64, times []int64) int64 {
	wait := rule.Least
	for (times[rule.From]+wait-times[rule.To])%period != 0 {
		wait++
	}
	return wait
}

// areKeptByHand reports whether all rules are kept, and returns the sum of waits.
func areKeptByHand(rules []impl.Rule, period int64, times []int64) (sum int64, kept bool) {
	kept = true
	for _, rule := range rules {
		wait := waitByHand(rule, period, times)
		sum += wait
		kept = kept && wait <= rule.Most
	}
	return sum, kept
}

// allTables returns all times with 0 for the event 0, the first ones first.
func allTables(events, period int64) [][]int64 {
	tables := [][]int64{{0}}
	for range events - 1 {
		var longer [][]int64
		for _, table := range tables {
			for time := range period {
				longer = append(longer, append(slices.Clone(table), time))
			}
		}
		tables = longer
	}
	return tables
}

// keptByHand returns all such times by which all rules are kept.
func keptByHand(events int64, rules []impl.Rule, period int64) [][]int64 {
	return slices.DeleteFunc(allTables(events, period), func(times []int64) bool {
		_, kept := areKeptByHand(rules, period, times)
		return !kept
	})
}

// A ruleCase has rules that may be right or not.
type ruleCase struct {
	events int64
	rules  []impl.Rule
	period int64
}

// badRules are cases with one number that is wrong by 1, or far away, or with one rule too many.
func badRules() []ruleCase {
	good := impl.Rule{From: 0, To: 1}
	cases := []ruleCase{{2, repeated(good, impl.MaxRules+1), 10}, {1, []impl.Rule{good}, 10}}
	for _, n := range []int64{0, -1, math.MinInt64, math.MaxInt64} {
		cases = append(cases, ruleCase{n, nil, 10}, ruleCase{n, []impl.Rule{good}, 10}, ruleCase{2, nil, n}, ruleCase{2, []impl.Rule{good}, n})
	}
	cases = append(cases, ruleCase{impl.MaxEvents + 1, nil, 1}, ruleCase{2, nil, impl.MaxPeriod + 1})
	for _, bad := range []impl.Rule{
		{From: 0, To: 0}, {From: 1, To: 1}, {From: -1, To: 1}, {From: 2, To: 1}, {From: 0, To: -1}, {From: 0, To: 2},
		{From: math.MinInt64, To: 1}, {From: math.MaxInt64, To: 1}, {From: 0, To: math.MinInt64}, {From: 0, To: math.MaxInt64},
		{From: 0, To: 1, Least: -1}, {From: 0, To: 1, Least: 10, Most: 10}, {From: 0, To: 1, Least: math.MinInt64}, {From: 0, To: 1, Least: math.MaxInt64, Most: math.MaxInt64},
		{From: 0, To: 1, Least: 1}, {From: 0, To: 1, Most: 10}, {From: 0, To: 1, Least: 9, Most: 19}, {From: 0, To: 1, Least: 9, Most: 8},
		{From: 0, To: 1, Most: -1}, {From: 0, To: 1, Least: 5, Most: math.MinInt64}, {From: 0, To: 1, Least: 5, Most: math.MaxInt64},
	} {
		cases = append(cases, ruleCase{2, []impl.Rule{bad}, 10}, ruleCase{2, append(repeated(good, impl.MaxRules-1), bad), 10})
	}
	return cases
}
