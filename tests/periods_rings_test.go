package tests

import (
	"math"
	"slices"
	"testing"

	"loop.example/g01389/impl"
)

func TestAreArcs(t *testing.T) {
	want(t, "two arcs", impl.AreArcs(2, twoArcs()), true)
	want(t, "one arc", impl.AreArcs(1, []impl.Arc{{}}), true)
	most := impl.Arc{From: impl.MaxEvents - 1, To: impl.MaxEvents - 1, Long: 1000, Marks: 10}
	want(t, "the most arcs", impl.AreArcs(impl.MaxEvents, repeated(most, impl.MaxRules)), true)
	want(t, "a node too few", impl.AreArcs(impl.MaxEvents-1, []impl.Arc{most}), false)
	for _, arcs := range badArcs() {
		want(t, "wrong arcs", impl.AreArcs(2, arcs), false)
	}
	for _, nodes := range []int64{0, -1, impl.MaxEvents + 1, math.MinInt64, math.MaxInt64} {
		want(t, "wrong nodes", impl.AreArcs(nodes, []impl.Arc{{}}), false)
	}
}

func TestSameArcs(t *testing.T) {
	arcs := twoArcs()
	want(t, "itself", impl.SameArcs(arcs, twoArcs()), true)
	want(t, "none and none", impl.SameArcs(nil, []impl.Arc{}), true)
	want(t, "one less", impl.SameArcs(arcs, arcs[:1]), false)
	want(t, "one more", impl.SameArcs(arcs[:1], arcs), false)
	want(t, "another order", impl.SameArcs(arcs, []impl.Arc{arcs[1], arcs[0]}), false)
	wild := impl.Arc{From: -1, To: math.MaxInt64, Long: -5, Marks: math.MinInt64}
	want(t, "arcs that are not right", impl.SameArcs([]impl.Arc{wild}, []impl.Arc{wild}), true)
	for _, other := range []impl.Arc{
		{From: -2, To: math.MaxInt64, Long: -5, Marks: math.MinInt64}, {From: -1, To: 0, Long: -5, Marks: math.MinInt64},
		{From: -1, To: math.MaxInt64, Long: 5, Marks: math.MinInt64}, {From: -1, To: math.MaxInt64, Long: -5, Marks: 0},
	} {
		want(t, "one other number", impl.SameArcs([]impl.Arc{wild}, []impl.Arc{other}), false)
	}
}

// A ringCase has arcs, their period, and a ring that tells it.
type ringCase struct {
	what     string
	nodes    int64
	arcs     []impl.Arc
	long, by int64
	ring     []int64
}

// ringCases are some that have a period.
func ringCases() []ringCase {
	eight := []impl.Arc{{From: 0, To: 1, Long: 1, Marks: 1}, {From: 1, To: 0, Long: 1, Marks: 1}, {From: 0, To: 2, Long: 5, Marks: 1}, {From: 2, To: 0, Long: 0, Marks: 1}}
	return []ringCase{
		{"the example", 2, twoArcs(), 7, 1, []int64{0, 1}},
		{"one node", 1, []impl.Arc{{Long: 6, Marks: 4}}, 3, 2, []int64{0}},
		{"no time", 1, []impl.Arc{{Long: 0, Marks: 4}}, 0, 1, []int64{0}},
		{"no time, several rings", 2, []impl.Arc{{From: 0, To: 1, Marks: 2}, {From: 1, To: 0}, {From: 1, To: 1, Marks: 3}}, 0, 1, []int64{2}},
		{"the most", 1, []impl.Arc{{Long: 1000, Marks: 10}, {Long: 1000, Marks: 1}}, 1000, 1, []int64{1}},
		{"a ring that is not the longest one", 1, []impl.Arc{{Long: 900, Marks: 10}, {Long: 99, Marks: 1}}, 99, 1, []int64{1}},
		{"equal rings", 1, []impl.Arc{{Long: 1, Marks: 1}, {Long: 4, Marks: 2}, {Long: 2, Marks: 1}}, 2, 1, []int64{1}},
		{"equal rings of several nodes", 3, []impl.Arc{{From: 2, To: 1, Long: 2, Marks: 1}, {From: 1, To: 2, Long: 2, Marks: 1}, {From: 0, To: 0, Long: 2, Marks: 1}}, 2, 1, []int64{2}},
		{"the first indices, not the least nodes", 4, []impl.Arc{{From: 2, To: 3, Long: 1, Marks: 1}, {From: 0, To: 1, Long: 1, Marks: 1}, {From: 1, To: 0, Long: 1, Marks: 1}, {From: 3, To: 2, Long: 1, Marks: 1}}, 1, 1, []int64{0, 3}},
		{"the least node first, not the least index", 2, []impl.Arc{{From: 1, To: 0, Long: 4, Marks: 1}, {From: 0, To: 1, Long: 3}}, 7, 1, []int64{1, 0}},
		{"two rings through a node", 3, eight, 5, 2, []int64{2, 3}},
		{"two equal rings through a node", 3, append(slices.Clone(eight[2:]), impl.Arc{From: 0, To: 1, Long: 2, Marks: 1}, impl.Arc{From: 1, To: 0, Long: 3, Marks: 1}), 5, 2, []int64{0, 1}},
		{"arcs side by side", 2, []impl.Arc{{From: 0, To: 1, Long: 1}, {From: 0, To: 1, Long: 2}, {From: 1, To: 0, Long: 3, Marks: 2}, {From: 1, To: 0, Long: 4, Marks: 3}}, 5, 2, []int64{1, 2}},
	}
}

func TestPeriodOf(t *testing.T) {
	for _, c := range ringCases() {
		wantPeriod(t, c.what, periodOf(impl.PeriodOf(c.nodes, c.arcs)), c.long, c.by)
		wantTold(t, "a ring for: "+c.what, told(impl.SlowRing(c.nodes, c.arcs)), c.ring)
	}
}

// periodByHand returns the greatest quotient of the rings, and the first one with it, after a look at all of them.
func periodByHand(nodes int64, arcs []impl.Arc) (fraction, []int64) {
	rings := allRings(nodes, arcs)
	if len(rings) == 0 || hasUnmarked(arcs, rings) {
		return fraction{}, nil
	}
	var long, by int64
	var slow []int64
	for _, ring := range rings {
		if l, m := sumsByHand(arcs, ring); slow == nil || l*by > long*m {
			long, by, slow = l, m, ring
		}
	}
	for factor := by; factor > 1; factor-- {
		if long%factor == 0 && by%factor == 0 {
			long, by = long/factor, by/factor
		}
	}
	return fraction{long, by, true}, slow
}

// TestPeriodIsGreatest compares periods and rings with a look at all lists of arcs.
func TestPeriodIsGreatest(t *testing.T) {
	r := drawer(201)
	without, unmarked, found := 0, 0, map[int]int{}
	for n := range 1500 {
		nodes := 1 + r.Int64N(5)
		arcs := drawMarkedArcs(r, nodes, 1+r.IntN(8), 3)
		if n%3 == 0 {
			arcs = drawArcs(r, nodes, 1+r.IntN(6), 2)
		}
		period, slow := periodByHand(nodes, arcs)
		want(t, "period", periodOf(impl.PeriodOf(nodes, arcs)), period)
		if period.ok {
			wantTold(t, "ring", told(impl.SlowRing(nodes, arcs)), slow)
			found[len(slow)]++
			continue
		}
		wantNotTold(t, "ring", told(impl.SlowRing(nodes, arcs)))
		if hasUnmarked(arcs, allRings(nodes, arcs)) {
			unmarked++
		} else {
			without++
		}
	}
	want(t, "all kinds are tried", without > 50 && unmarked > 50 && found[1] > 50 && found[2] > 50 && found[3] > 20, true)
}

// walkPeriod returns the greatest quotient of the sums of closed walks with at most as many arcs as there are nodes: it is that of a ring.
func walkPeriod(nodes int64, arcs []impl.Arc) (long, by int64) {
	for start := range nodes {
		// It tells the greatest sum of Long of the walks to a node with some marks.
		type state struct{ node, marks int64 }
		now := map[state]int64{{start, 0}: 0}
		for range nodes {
			next := map[state]int64{}
			for from, sum := range now {
				for _, arc := range arcs {
					if arc.From == from.node {
						to := state{arc.To, from.marks + arc.Marks}
						next[to] = max(next[to], sum+arc.Long)
					}
				}
			}
			for to, sum := range next {
				if to.node == start && sum*by >= long*to.marks {
					long, by = sum, to.marks
				}
			}
			now = next
		}
	}
	return long, by
}

// TestPeriodOfManyArcs compares periods of as many arcs as there can be with those of walks.
func TestPeriodOfManyArcs(t *testing.T) {
	r := drawer(202)
	for range 60 {
		nodes := 6 + r.Int64N(impl.MaxEvents-5)
		arcs := drawMarkedArcs(r, nodes, impl.MaxRules, 10)
		for i := range arcs {
			arcs[i].Long = r.Int64N(1001)
		}
		long, by := walkPeriod(nodes, arcs)
		got := periodOf(impl.PeriodOf(nodes, arcs))
		want(t, "period of many arcs", got.ok && got.long*by == long*got.by && got.by >= 1, true)
		ring, ok := impl.SlowRing(nodes, arcs)
		want(t, "a ring", ok && isRingByHand(arcs, ring), true)
		long, by = sumsByHand(arcs, ring)
		want(t, "its quotient", got.long*by, long*got.by)
	}
}

// circle returns a ring of all nodes, with a number of arcs side by side each.
func circle(beside int, long, marks int64) []impl.Arc {
	var arcs []impl.Arc
	for range beside {
		for node := range int64(impl.MaxEvents) {
			arcs = append(arcs, impl.Arc{From: node, To: (node + 1) % impl.MaxEvents, Long: long, Marks: marks})
		}
	}
	return arcs
}

func TestPeriodOfLongRings(t *testing.T) {
	wantPeriod(t, "a ring of all nodes", periodOf(impl.PeriodOf(impl.MaxEvents, circle(1, 1000, 10))), 100, 1)
	wantTold(t, "the ring", told(impl.SlowRing(impl.MaxEvents, circle(1, 1000, 10))), upwards(12))
	one := circle(2, 1000, 0)
	one[7].Marks, one[19].Marks = 1, 2
	wantPeriod(t, "a mark in a long ring", periodOf(impl.PeriodOf(impl.MaxEvents, one)), 12000, 1)
	wantTold(t, "the first one of many rings", told(impl.SlowRing(impl.MaxEvents, one)), upwards(12))
	one[7].Marks = 2
	one[0].Long = 999
	wantTold(t, "the first one of many rings that are slow", told(impl.SlowRing(impl.MaxEvents, one)), append([]int64{12}, upwards(12)[1:]...))
	one[19].Marks = 0
	want(t, "a long ring without marks", periodOf(impl.PeriodOf(impl.MaxEvents, one)), fraction{})
}

func TestPeriodsFail(t *testing.T) {
	none := fraction{}
	for _, arcs := range badArcs() {
		want(t, "wrong arcs", periodOf(impl.PeriodOf(2, arcs)), none)
		wantNotTold(t, "wrong arcs", told(impl.SlowRing(2, arcs)))
		wantNotTold(t, "wrong arcs", told(impl.IsPeriod(2, arcs, 1, 1)))
		wantNotTold(t, "wrong arcs", told(impl.TimesOf(2, arcs, 1000000, 1)))
		wantNotTold(t, "wrong arcs", told(impl.RunArcs(2, arcs, 1)))
	}
	for _, nodes := range []int64{0, -1, 1, impl.MaxEvents + 1, math.MinInt64, math.MaxInt64} {
		want(t, "wrong nodes", periodOf(impl.PeriodOf(nodes, twoArcs())), none)
		wantNotTold(t, "wrong nodes", told(impl.SlowRing(nodes, twoArcs())))
		wantNotTold(t, "wrong nodes", told(impl.IsPeriod(nodes, twoArcs(), 7, 1)))
		wantNotTold(t, "wrong nodes", told(impl.TimesOf(nodes, twoArcs(), 7, 1)))
		wantNotTold(t, "wrong nodes", told(impl.RunArcs(nodes, twoArcs(), 1)))
	}
	want(t, "no ring", periodOf(impl.PeriodOf(2, twoArcs()[:1])), none)
	wantNotTold(t, "no ring", told(impl.SlowRing(2, twoArcs()[:1])))
}

// unmarkedCases have a ring without marks, some of them beside one with a mark; not all of these rings take time.
func unmarkedCases() []ringCase {
	return []ringCase{
		{what: "one node", nodes: 1, arcs: []impl.Arc{{Long: 1}}},
		{what: "one node without time", nodes: 1, arcs: []impl.Arc{{}}},
		{what: "beside another arc", nodes: 1, arcs: []impl.Arc{{Long: 3, Marks: 1}, {}}},
		{what: "two nodes", nodes: 2, arcs: []impl.Arc{{From: 0, To: 1, Long: 3}, {From: 1, To: 0, Long: 4}}},
		{what: "two nodes without time", nodes: 2, arcs: []impl.Arc{{From: 0, To: 1}, {From: 1, To: 0}, {From: 0, To: 0, Long: 1, Marks: 1}}},
		{what: "behind a node", nodes: 3, arcs: []impl.Arc{{From: 0, To: 1}, {From: 1, To: 2}, {From: 2, To: 1}}},
		{what: "ahead of a node", nodes: 3, arcs: []impl.Arc{{From: 0, To: 1}, {From: 1, To: 0}, {From: 1, To: 2}}},
		{what: "the last node alone", nodes: 12, arcs: []impl.Arc{{From: 0, To: 0, Marks: 1}, {From: 11, To: 11, Long: 1}}},
		{what: "a long ring", nodes: 12, arcs: circle(2, 1, 0)},
	}
}

func TestRingsWithoutMarks(t *testing.T) {
	for _, c := range unmarkedCases() {
		want(t, c.what, periodOf(impl.PeriodOf(c.nodes, c.arcs)), fraction{})
		wantNotTold(t, c.what, told(impl.SlowRing(c.nodes, c.arcs)))
		wantNotTold(t, c.what, told(impl.TimesOf(c.nodes, c.arcs, 1000000, 1)))
		wantNotTold(t, c.what, told(impl.TimesOf(c.nodes, c.arcs, 0, 1)))
		for rounds := range int64(22) {
			wantNotTold(t, c.what, told(impl.RunArcs(c.nodes, c.arcs, rounds)))
		}
	}
}

func TestIsPeriod(t *testing.T) {
	wantTold(t, "the period", told(impl.IsPeriod(2, twoArcs(), 7, 1)), true)
	wantTold(t, "a bit less", told(impl.IsPeriod(2, twoArcs(), 6999, 1000)), false)
	wantTold(t, "the period times 1000", told(impl.IsPeriod(2, twoArcs(), 7000, 1000)), true)
	wantTold(t, "a bit more", told(impl.IsPeriod(2, twoArcs(), 7001, 1000)), true)
	wantTold(t, "the most", told(impl.IsPeriod(2, twoArcs(), 1000000, 1)), true)
	wantTold(t, "none", told(impl.IsPeriod(2, twoArcs(), 0, 1)), false)
	wantTold(t, "none, where it takes no time", told(impl.IsPeriod(1, []impl.Arc{{Marks: 1}}, 0, 1000)), true)
	wantTold(t, "no ring", told(impl.IsPeriod(2, twoArcs()[:1], 0, 1)), true)
	wantTold(t, "a ring without marks", told(impl.IsPeriod(1, []impl.Arc{{Long: 1}}, 1000000, 1)), false)
	wantTold(t, "a ring without marks and time", told(impl.IsPeriod(1, []impl.Arc{{}}, 0, 1)), true)
	for _, long := range []int64{-1, 1000001, math.MinInt64, math.MaxInt64} {
		wantNotTold(t, "wrong long", told(impl.IsPeriod(2, twoArcs(), long, 1)))
		wantNotTold(t, "wrong long", told(impl.TimesOf(2, twoArcs(), long, 1)))
	}
	for _, by := range []int64{0, -1, 1001, math.MinInt64, math.MaxInt64} {
		wantNotTold(t, "wrong by", told(impl.IsPeriod(2, twoArcs(), 1000000, by)))
		wantNotTold(t, "wrong by", told(impl.TimesOf(2, twoArcs(), 1000000, by)))
	}
}

// TestIsPeriodTellsAll compares it with a look at all rings, for fractions that are often as great as the period.
func TestIsPeriodTellsAll(t *testing.T) {
	r := drawer(203)
	counts := map[bool]int{}
	for range 1500 {
		nodes := 1 + r.Int64N(4)
		arcs := drawArcs(r, nodes, 1+r.IntN(7), 2)
		long, by := r.Int64N(8), 1+r.Int64N(4)
		over := func(ring []int64) bool {
			l, m := sumsByHand(arcs, ring)
			return by*l-long*m > 0
		}
		enough := !slices.ContainsFunc(allRings(nodes, arcs), over)
		wantTold(t, "enough", told(impl.IsPeriod(nodes, arcs, long, by)), enough)
		counts[enough]++
		if p := periodOf(impl.PeriodOf(nodes, arcs)); p.ok {
			wantTold(t, "the period is enough", told(impl.IsPeriod(nodes, arcs, p.long, p.by)), true)
			if p.long > 0 {
				wantTold(t, "a bit less is not", told(impl.IsPeriod(nodes, arcs, (1000/p.by)*p.long-1, (1000/p.by)*p.by)), false)
			}
		}
	}
	want(t, "both answers", counts[true] > 200 && counts[false] > 200, true)
}

// timesByHand returns the greatest sums of ways to nodes, with any arc as often as there are rounds.
func timesByHand(nodes int64, arcs []impl.Arc, long, by int64) []int64 {
	times := make([]int64, nodes)
	for range 3 * nodes {
		next := slices.Clone(times)
		for _, arc := range arcs {
			next[arc.To] = max(next[arc.To], times[arc.From]+by*arc.Long-long*arc.Marks)
		}
		times = next
	}
	return times
}

func TestTimesOf(t *testing.T) {
	wantTold(t, "the example", told(impl.TimesOf(2, twoArcs(), 7, 1)), []int64{0, 3})
	wantTold(t, "times 1000", told(impl.TimesOf(2, twoArcs(), 7000, 1000)), []int64{0, 3000})
	wantTold(t, "a longer one", told(impl.TimesOf(2, twoArcs(), 1000000, 1)), []int64{0, 3})
	wantNotTold(t, "a shorter one", told(impl.TimesOf(2, twoArcs(), 6, 1)))
	wantNotTold(t, "one that is a bit shorter", told(impl.TimesOf(2, twoArcs(), 6999, 1000)))
	wantTold(t, "no ring", told(impl.TimesOf(3, twoArcs()[:1], 0, 2)), []int64{0, 6, 0})
	// The arcs lead against the order of the nodes, and come in the order that needs the most looks.
	var down []impl.Arc
	for node := range int64(impl.MaxEvents - 1) {
		down = append(down, impl.Arc{From: node + 1, To: node, Long: 1000})
	}
	times := make([]int64, impl.MaxEvents)
	for node := range times {
		times[node] = int64(impl.MaxEvents-1-node) * 1000000
	}
	wantTold(t, "a long way", told(impl.TimesOf(impl.MaxEvents, down, 5, 1000)), times)
	r := drawer(204)
	for range 1500 {
		nodes := 1 + r.Int64N(impl.MaxEvents)
		arcs := drawMarkedArcs(r, nodes, 1+r.IntN(12), 3)
		p := periodOf(impl.PeriodOf(nodes, arcs))
		if !p.ok {
			p = fraction{r.Int64N(4), 1, true}
		}
		wantTold(t, "times of the period", told(impl.TimesOf(nodes, arcs, p.long, p.by)), timesByHand(nodes, arcs, p.long, p.by))
		long := 3*p.long + r.Int64N(5)
		wantTold(t, "times of another one", told(impl.TimesOf(nodes, arcs, long, 3*p.by)), timesByHand(nodes, arcs, long, 3*p.by))
	}
}

// runByHand tells, from behind, when something happens at a node for a time.
func runByHand(arcs []impl.Arc, known map[[2]int64]int64, node, n int64) int64 {
	if at, ok := known[[2]int64{node, n}]; ok {
		return at
	}
	var at int64
	for _, arc := range arcs {
		if arc.To == node && n >= arc.Marks {
			at = max(at, runByHand(arcs, known, arc.From, n-arc.Marks)+arc.Long)
		}
	}
	known[[2]int64{node, n}] = at
	return at
}

func TestRunArcs(t *testing.T) {
	wantTold(t, "the example", told(impl.RunArcs(2, twoArcs(), 2)), []int64{0, 3, 7, 10})
	wantTold(t, "one round", told(impl.RunArcs(2, twoArcs(), 1)), []int64{0, 3})
	wantTold(t, "two marks", told(impl.RunArcs(1, []impl.Arc{{Long: 5, Marks: 2}}, 5)), []int64{0, 0, 5, 5, 10})
	wantTold(t, "marks that no round reaches", told(impl.RunArcs(1, []impl.Arc{{Long: 5, Marks: 10}}, 10)), make([]int64, 10))
	wantTold(t, "marks that one round reaches", told(impl.RunArcs(1, []impl.Arc{{Long: 5, Marks: 10}}, 11)), append(make([]int64, 10), 5))
	wantTold(t, "no ring", told(impl.RunArcs(3, twoArcs()[:1], 2)), []int64{0, 3, 0, 0, 3, 0})
	r := drawer(205)
	for range 800 {
		nodes, rounds := 1+r.Int64N(impl.MaxEvents), 1+r.Int64N(20)
		arcs := drawMarkedArcs(r, nodes, 1+r.IntN(impl.MaxRules), 1+r.Int64N(10))
		var wanted []int64
		known := map[[2]int64]int64{}
		for n := range rounds {
			for node := range nodes {
				wanted = append(wanted, runByHand(arcs, known, node, n))
			}
		}
		wantTold(t, "a run", told(impl.RunArcs(nodes, arcs, rounds)), wanted)
	}
	for _, rounds := range []int64{0, -1, 21, math.MinInt64, math.MaxInt64} {
		wantNotTold(t, "wrong rounds", told(impl.RunArcs(2, twoArcs(), rounds)))
	}
	run, ok := impl.RunArcs(impl.MaxEvents, circle(2, 1000, 1), 20)
	want(t, "the longest run", ok && len(run) == 20*impl.MaxEvents && slices.Max(run) == 19000, true)
}

// TestRunsKeepPeriod checks that a run never comes behind the times of the period, and that a slow ring makes it as slow as these.
func TestRunsKeepPeriod(t *testing.T) {
	r := drawer(206)
	for range 300 {
		nodes := 1 + r.Int64N(6)
		arcs := drawMarkedArcs(r, nodes, 1+r.IntN(12), 3)
		p := periodOf(impl.PeriodOf(nodes, arcs))
		if !p.ok {
			continue
		}
		run, _ := impl.RunArcs(nodes, arcs, 20)
		times, _ := impl.TimesOf(nodes, arcs, p.long, p.by)
		ring, _ := impl.SlowRing(nodes, arcs)
		long, marks := sumsByHand(arcs, ring)
		start := arcs[ring[0]].From
		for n := range int64(20) {
			for node := range nodes {
				want(t, "no later than by the period", p.by*run[n*nodes+node] <= times[node]+n*p.long, true)
			}
			if n >= marks {
				want(t, "as slow as the ring", run[n*nodes+start] >= run[(n-marks)*nodes+start]+long, true)
			}
		}
	}
}
