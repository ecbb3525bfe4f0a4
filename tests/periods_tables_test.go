package tests

import (
	"math"
	"slices"
	"testing"

	"loop.example/g01389/impl"
)

func TestAreRules(t *testing.T) {
	for period := int64(1); period <= impl.MaxPeriod; period++ {
		want(t, "no rules", impl.AreRules(1, nil, period), true)
		for _, rule := range []impl.Rule{{From: 0, To: 1}, {From: 0, To: 1, Least: period - 1, Most: period - 1}, {From: 1, To: 0, Least: period - 1, Most: 2*period - 2}, {From: 1, To: 0, Most: period - 1}} {
			want(t, "a rule", impl.AreRules(2, []impl.Rule{rule}, period), true)
		}
	}
	most := impl.Rule{From: impl.MaxEvents - 1, To: 0, Least: 59, Most: 118}
	want(t, "the most rules", impl.AreRules(impl.MaxEvents, repeated(most, impl.MaxRules), impl.MaxPeriod), true)
	want(t, "an event too few", impl.AreRules(impl.MaxEvents-1, []impl.Rule{most}, impl.MaxPeriod), false)
	want(t, "a period too short", impl.AreRules(impl.MaxEvents, []impl.Rule{most}, impl.MaxPeriod-1), false)
	for _, c := range badRules() {
		want(t, "wrong rules", impl.AreRules(c.events, c.rules, c.period), false)
	}
}

func TestSameRules(t *testing.T) {
	rules := []impl.Rule{{From: 0, To: 1, Least: 2, Most: 3}, {From: 1, To: 0, Least: 2, Most: 3}}
	want(t, "itself", impl.SameRules(rules, slices.Clone(rules)), true)
	want(t, "none and none", impl.SameRules([]impl.Rule{}, nil), true)
	want(t, "one less", impl.SameRules(rules, rules[:1]), false)
	want(t, "one more", impl.SameRules(rules[:1], rules), false)
	want(t, "another order", impl.SameRules(rules, []impl.Rule{rules[1], rules[0]}), false)
	wild := impl.Rule{From: -1, To: -1, Least: 9, Most: math.MinInt64}
	want(t, "rules that are not right", impl.SameRules([]impl.Rule{wild}, []impl.Rule{wild}), true)
	for _, other := range []impl.Rule{
		{From: 0, To: -1, Least: 9, Most: math.MinInt64}, {From: -1, To: 0, Least: 9, Most: math.MinInt64},
		{From: -1, To: -1, Least: 8, Most: math.MinInt64}, {From: -1, To: -1, Least: 9, Most: math.MaxInt64},
	} {
		want(t, "one other number", impl.SameRules([]impl.Rule{wild}, []impl.Rule{other}), false)
	}
}

func TestKeepsRules(t *testing.T) {
	rule := []impl.Rule{{From: 0, To: 1, Least: 2, Most: 3}}
	cases := []struct {
		rules []impl.Rule
		times []int64
		kept  bool
	}{
		{rule, []int64{0, 1}, false}, {rule, []int64{0, 2}, true}, {rule, []int64{0, 3}, true}, {rule, []int64{0, 4}, false},
		{rule, []int64{9, 1}, true}, {rule, []int64{9, 2}, true}, {rule, []int64{9, 3}, false}, {rule, []int64{9, 0}, false}, {rule, []int64{5, 5}, false},
		{nil, []int64{5, 5}, true},
		// The wait can be longer than the period.
		{[]impl.Rule{{From: 1, To: 0, Least: 8, Most: 12}}, []int64{2, 0}, true}, {[]impl.Rule{{From: 1, To: 0, Least: 8, Most: 12}}, []int64{3, 0}, false},
		{[]impl.Rule{{From: 1, To: 0, Least: 8, Most: 17}}, []int64{7, 0}, true},
		// All rules must be kept.
		{append(rule, impl.Rule{From: 1, To: 0, Least: 0, Most: 7}), []int64{0, 2}, false}, {append(rule, impl.Rule{From: 1, To: 0, Least: 0, Most: 7}), []int64{0, 3}, true},
	}
	for _, c := range cases {
		wantTold(t, "kept", told(impl.KeepsRules(2, c.rules, 10, c.times)), c.kept)
	}
	r := drawer(211)
	counts := map[bool]int{}
	for range 2000 {
		events, period := 1+r.Int64N(impl.MaxEvents), 1+r.Int64N(impl.MaxPeriod)
		rules, times := drawRules(r, events, r.IntN(6), period), drawList(r, int(events), 0, period-1)
		_, kept := areKeptByHand(rules, period, times)
		wantTold(t, "kept", told(impl.KeepsRules(events, rules, period, times)), kept)
		counts[kept]++
	}
	want(t, "both answers", counts[true] > 200 && counts[false] > 200, true)
	for _, times := range [][]int64{nil, {0}, {0, 0, 0}, {0, 10}, {-1, 0}, {10, 0}, {math.MinInt64, 0}, {0, math.MaxInt64}} {
		wantNotTold(t, "wrong times", told(impl.KeepsRules(2, rule, 10, times)))
		wantNotTold(t, "wrong times without rules", told(impl.KeepsRules(2, nil, 10, times)))
	}
	for _, c := range badRules() {
		wantNotTold(t, "wrong rules", told(impl.KeepsRules(c.events, c.rules, c.period, []int64{0, 0})))
		wantNotTold(t, "wrong rules", told(impl.KeepsRules(c.events, c.rules, c.period, []int64{0})))
	}
}

// wantTables compares the functions that search tables with a look at all of them, and returns how many there are.
func wantTables(t *testing.T, c ruleCase) int {
	t.Helper()
	kept := keptByHand(c.events, c.rules, c.period)
	wantTold(t, "how many tables", told(impl.CountTables(c.events, c.rules, c.period)), int64(len(kept)))
	if len(kept) == 0 {
		wantNotTold(t, "the first table", told(impl.FirstTable(c.events, c.rules, c.period)))
		wantNoPlan(t, "the best table", planOf(impl.BestTable(c.events, c.rules, c.period)))
		return 0
	}
	wantTold(t, "the first table", told(impl.FirstTable(c.events, c.rules, c.period)), kept[0])
	best, least := kept[0], int64(math.MaxInt64)
	for _, times := range kept {
		if sum, _ := areKeptByHand(c.rules, c.period, times); sum < least {
			best, least = times, sum
		}
	}
	wantPlan(t, "the best table", planOf(impl.BestTable(c.events, c.rules, c.period)), best, least)
	return len(kept)
}

func TestTables(t *testing.T) {
	apart := impl.Rule{From: 0, To: 1, Least: 2, Most: 3}
	cases := []struct {
		what string
		ruleCase
		count int
	}{
		{"the example", ruleCase{2, []impl.Rule{apart}, 10}, 2},
		{"one event", ruleCase{1, nil, 60}, 1},
		{"no rules", ruleCase{3, nil, 5}, 25},
		{"a rule from an event to the event 0", ruleCase{2, []impl.Rule{{From: 1, To: 0, Least: 2, Most: 3}}, 10}, 2},
		{"rules that no table keeps", ruleCase{2, []impl.Rule{apart, {From: 1, To: 0, Least: 0, Most: 6}}, 10}, 0},
		{"rules that just one table keeps", ruleCase{2, []impl.Rule{apart, {From: 1, To: 0, Least: 0, Most: 7}}, 10}, 1},
		{"the same rule twice", ruleCase{2, []impl.Rule{apart, apart}, 10}, 2},
		{"rules around three events that no table keeps", ruleCase{3, []impl.Rule{{From: 0, To: 1, Least: 1, Most: 1}, {From: 1, To: 2, Least: 1, Most: 1}, {From: 2, To: 0, Least: 1, Most: 1}}, 4}, 0},
		{"rules around three events", ruleCase{3, []impl.Rule{{From: 0, To: 1, Least: 1, Most: 1}, {From: 1, To: 2, Least: 1, Most: 1}, {From: 2, To: 0, Least: 1, Most: 1}}, 3}, 1},
		{"a rule that all tables keep", ruleCase{2, []impl.Rule{{From: 0, To: 1, Least: 7, Most: 16}}, 10}, 10},
		{"all events at once", ruleCase{12, []impl.Rule{{From: 3, To: 11}}, 1}, 1},
		// Waiting here or there is equally good, and the first times come first.
		{"several best ones", ruleCase{3, []impl.Rule{{From: 0, To: 1, Most: 5}, {From: 1, To: 2, Most: 5}, {From: 0, To: 2, Least: 3, Most: 5}}, 6}, 18},
	}
	for _, c := range cases {
		want(t, c.what, wantTables(t, c.ruleCase), c.count)
	}
	r := drawer(212)
	counts := map[bool]int{}
	for range 1000 {
		events := 1 + r.Int64N(5)
		period := 1 + r.Int64N([]int64{60, 20, 9, 6, 5}[events-1])
		found := wantTables(t, ruleCase{events, drawRules(r, events, r.IntN(9), period), period})
		counts[found > 0]++
	}
	want(t, "with and without tables", counts[true] > 100 && counts[false] > 100, true)
}

// TestTablesUpToLimit checks how many tables there may be: 4096 without looking at rules.
func TestTablesUpToLimit(t *testing.T) {
	for events := int64(1); events <= impl.MaxEvents; events++ {
		for period := int64(1); period <= impl.MaxPeriod; period++ {
			count, few := int64(1), true
			for range events - 1 {
				count *= period
				few = few && count <= 4096
			}
			c := ruleCase{events, nil, period}
			if few {
				wantTold(t, "how many tables", told(impl.CountTables(events, nil, period)), count)
				wantTold(t, "the first table", told(impl.FirstTable(events, nil, period)), make([]int64, events))
				wantPlan(t, "the best table", planOf(impl.BestTable(events, nil, period)), make([]int64, events), 0)
				continue
			}
			wantNoTables(t, c)
		}
	}
	for _, c := range []ruleCase{{4, nil, 16}, {5, nil, 8}, {7, nil, 4}, {3, nil, 60}, {12, nil, 2}, {12, nil, 1}} {
		want(t, "few enough tables", told(impl.CountTables(c.events, c.rules, c.period)).ok, true)
	}
	for _, c := range []ruleCase{{4, nil, 17}, {5, nil, 9}, {7, nil, 5}, {8, nil, 4}, {4, nil, 60}, {12, nil, 3}} {
		wantNoTables(t, c)
	}
	many := repeated(impl.Rule{From: 11, To: 0, Least: 1, Most: 2}, impl.MaxRules)
	wantTables(t, ruleCase{12, many, 2})
}

// wantNoTables checks that all functions that search tables fail.
func wantNoTables(t *testing.T, c ruleCase) {
	t.Helper()
	wantNotTold(t, "how many tables", told(impl.CountTables(c.events, c.rules, c.period)))
	wantNotTold(t, "the first table", told(impl.FirstTable(c.events, c.rules, c.period)))
	wantNoPlan(t, "the best table", planOf(impl.BestTable(c.events, c.rules, c.period)))
	wantNotTold(t, "shared", told(impl.TablesShared(c.events, [][]impl.Rule{c.rules}, c.period, 1)))
}

func TestTablesFail(t *testing.T) {
	for _, c := range badRules() {
		wantNoTables(t, c)
	}
}

func TestTurnTable(t *testing.T) {
	wantTold(t, "over the end", told(impl.TurnTable([]int64{1, 9}, 10, 2)), []int64{3, 1})
	wantTold(t, "back", told(impl.TurnTable([]int64{1, 9}, 10, -2)), []int64{9, 7})
	wantTold(t, "far back", told(impl.TurnTable([]int64{0, 1, 6}, 7, -1000)), []int64{1, 2, 0})
	wantTold(t, "far on", told(impl.TurnTable([]int64{0, 1, 6}, 7, 1000)), []int64{6, 0, 5})
	wantTold(t, "not at all", told(impl.TurnTable([]int64{0, 59}, 60, 0)), []int64{0, 59})
	wantTold(t, "the period 1", told(impl.TurnTable(make([]int64, 12), 1, -999)), make([]int64, 12))
	for _, times := range [][]int64{nil, {}, {10}, {-1}, {0, 10}, {0, math.MinInt64}, {math.MaxInt64}, make([]int64, impl.MaxEvents+1)} {
		wantNotTold(t, "wrong times", told(impl.TurnTable(times, 10, 1)))
	}
	for _, period := range []int64{0, -1, impl.MaxPeriod + 1, math.MinInt64, math.MaxInt64} {
		wantNotTold(t, "a wrong period", told(impl.TurnTable([]int64{0}, period, 1)))
	}
	for _, by := range []int64{-1001, 1001, math.MinInt64, math.MaxInt64} {
		wantNotTold(t, "a wrong turn", told(impl.TurnTable([]int64{0}, 10, by)))
	}
}

// TestTurnedTablesKeepRules checks that rules are kept by turned tables just if they are kept by the tables themselves.
func TestTurnedTablesKeepRules(t *testing.T) {
	r := drawer(213)
	for range 500 {
		events, period := 1+r.Int64N(4), 1+r.Int64N(8)
		rules, times, by := drawRules(r, events, r.IntN(4), period), drawList(r, int(events), 0, period-1), r.Int64N(2001)-1000
		turned, ok := impl.TurnTable(times, period, by)
		want(t, "times are turned", ok, true)
		for i, time := range turned {
			want(t, "a turned time", 0 <= time && time < period && (time-times[i]-by)%period == 0, true)
		}
		kept := told(impl.KeepsRules(events, rules, period, times))
		want(t, "kept as before", told(impl.KeepsRules(events, rules, period, turned)), kept)
		back, _ := impl.TurnTable(turned, period, -by)
		wantList(t, "turned back", back, times)
	}
}

func TestTablesShared(t *testing.T) {
	r := drawer(214)
	for workers := int64(1); workers <= impl.MaxWorkers; workers++ {
		for count := range 9 {
			many, counts := [][]impl.Rule{}, []int64{}
			for range count {
				many = append(many, drawRules(r, 4, r.IntN(5), 8))
				counts = append(counts, int64(len(keptByHand(4, many[len(many)-1], 8))))
			}
			wantTold(t, "counts", told(impl.TablesShared(4, many, 8, workers)), counts)
		}
		wantTold(t, "lists that are all without rules", told(impl.TablesShared(3, make([][]impl.Rule, 8), 5, workers)), repeated[int64](25, 8))
		wantNotTold(t, "too many lists", told(impl.TablesShared(3, make([][]impl.Rule, 9), 5, workers)))
		for _, n := range []int64{0, -1, 13, 1000, math.MinInt64, math.MaxInt64} {
			wantTold(t, "none", told(impl.TablesShared(n, nil, 10, workers)), nil)
			wantTold(t, "none", told(impl.TablesShared(2, [][]impl.Rule{}, n, workers)), nil)
			wantTold(t, "none", told(impl.TablesShared(n, nil, n, workers)), nil)
		}
		good := []impl.Rule{{From: 0, To: 1}}
		for _, c := range badRules() {
			wantNotTold(t, "one wrong list", told(impl.TablesShared(c.events, [][]impl.Rule{good, good, c.rules}, c.period, workers)))
		}
		wantNotTold(t, "too many tables", told(impl.TablesShared(4, [][]impl.Rule{good}, 17, workers)))
		broken := []impl.Rule{{From: 0, To: 1}, {From: 0, To: 1, Least: 1, Most: 1}}
		wantTold(t, "rules that no table keeps are counted", told(impl.TablesShared(2, [][]impl.Rule{good, broken, good}, 10, workers)), []int64{1, 0, 1})
	}
	for _, workers := range []int64{0, -1, impl.MaxWorkers + 1, math.MinInt64, math.MaxInt64} {
		wantNotTold(t, "wrong workers", told(impl.TablesShared(2, [][]impl.Rule{nil}, 10, workers)))
		wantNotTold(t, "wrong workers for none", told(impl.TablesShared(2, nil, 10, workers)))
	}
}
