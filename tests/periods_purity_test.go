package tests

import (
	"slices"
	"testing"

	"loop.example/g01389/impl"
)

// A periodAsking is what functions of chapter 5 are asked for.
type periodAsking struct {
	arcs                                     []impl.Arc
	rules, late                              []impl.Rule // late ones are those of SpreadDelays
	many                                     [][]impl.Rule
	along                                    []bool
	times, ring, delays, runs, others, heads []int64
	soaks, moves                             []int64
	flows, places                            []float32
	nodes, long, by, rounds, events, period  int64
	turn, steps, most, workers               int64
	lost, cycle, speed, green                float32
}

// integers returns all lists of integers of an asking.
func (a *periodAsking) integers() []*[]int64 {
	return []*[]int64{&a.times, &a.ring, &a.delays, &a.runs, &a.others, &a.heads, &a.soaks, &a.moves}
}

// changed returns an asking with other lists.
func (a periodAsking) changed(arcs func([]impl.Arc) []impl.Arc, rules func([]impl.Rule) []impl.Rule, flags func([]bool) []bool, integers func([]int64) []int64, numbers func([]float32) []float32) periodAsking {
	a.arcs, a.rules, a.late, a.along = arcs(a.arcs), rules(a.rules), rules(a.late), flags(a.along)
	a.flows, a.places = numbers(a.flows), numbers(a.places)
	a.many = slices.Clone(a.many)
	for i, list := range a.many {
		a.many[i] = rules(list)
	}
	for _, list := range a.integers() {
		*list = integers(*list)
	}
	return a
}

// tight returns a copy of a list without any room behind it.
func tight[T any](list []T) []T { return slices.Clip(slices.Clone(list)) }

// roomy returns functions that return copies of lists with room behind them, in which there is a filler.
func roomy[T any](filler T) func(list []T) []T {
	return func(list []T) []T {
		part, _ := spare(list, filler)
		return part
	}
}

// copied returns an asking that shares no memory with a, without any room behind its lists.
func (a periodAsking) copied() periodAsking {
	return a.changed(tight, tight, tight, tight, tight)
}

// withRoom returns a copy of an asking, the lists of which have room behind them.
func (a periodAsking) withRoom() periodAsking {
	return a.changed(roomy(impl.Arc{Long: 5, Marks: 1}), roomy(impl.Rule{To: 1, Most: 5}), roomy(true), roomy[int64](5), roomy[float32](0.5))
}

// whole returns all lists of an asking, with the room behind them.
func (a periodAsking) whole() string {
	w := &telling{}
	w.add(a.arcs[:cap(a.arcs)], a.rules[:cap(a.rules)], a.late[:cap(a.late)], a.along[:cap(a.along)], a.flows[:cap(a.flows)], a.places[:cap(a.places)])
	for _, rules := range a.many {
		w.add(rules[:cap(rules)])
	}
	for _, list := range a.integers() {
		w.add((*list)[:cap(*list)])
	}
	return w.String()
}

// ofPeriods tells the results of all functions of chapter 5, and spoils each list that is returned.
func ofPeriods(a periodAsking) string {
	w := &telling{}
	list := func(list []int64, ok bool) { w.add(ok); spoil(w, list, -77) }
	number := func(n int64, ok bool) { w.add(n, ok) }
	reports := func(answer, ok bool) { w.add(answer, ok) }
	three := func(n, m int64, ok bool) { w.add(n, m, ok) }
	w.add(impl.AreArcs(a.nodes, a.arcs), impl.SameArcs(a.arcs, a.arcs[:len(a.arcs)/2]))
	three(impl.PeriodOf(a.nodes, a.arcs))
	list(impl.SlowRing(a.nodes, a.arcs))
	reports(impl.IsPeriod(a.nodes, a.arcs, a.long, a.by))
	list(impl.TimesOf(a.nodes, a.arcs, a.long, a.by))
	list(impl.RunArcs(a.nodes, a.arcs, a.rounds))
	w.add(impl.AreRules(a.events, a.rules, a.period), impl.SameRules(a.rules, a.rules[:len(a.rules)/2]))
	reports(impl.KeepsRules(a.events, a.rules, a.period, a.times))
	list(impl.FirstTable(a.events, a.rules, a.period))
	number(impl.CountTables(a.events, a.rules, a.period))
	best, least, ok := impl.BestTable(a.events, a.rules, a.period)
	number(least, ok)
	spoil(w, best, -77)
	three(impl.RingGap(a.rules, a.period, a.ring, a.along))
	list(impl.TurnTable(a.times, a.period, a.turn))
	phases, ok := impl.PhasesOf(a.times, a.period)
	w.add(ok)
	spoil(w, phases, -77)
	together, ok := impl.TogetherOf(a.times, a.period)
	w.add(together, ok)
	list(impl.SpreadDelays(a.events, a.late, a.delays))
	list(impl.BlockTimes(a.runs, a.heads))
	number(impl.LeastHead(a.runs, a.others))
	shares, ok := impl.GreenShares(a.flows, a.lost, a.cycle)
	w.add(ok)
	spoil(w, shares, -77)
	cycle, ok := impl.CycleOf(a.flows, a.lost)
	w.add(cycle, ok)
	offsets, band, ok := impl.GreenWave(a.places, a.speed, a.cycle, a.green, a.steps)
	w.add(band, ok)
	spoil(w, offsets, -77)
	number(impl.HoistPeriod(a.soaks, a.moves, a.most))
	list(impl.TablesShared(a.events, a.many, a.period, a.workers))
	return w.String()
}

// drawPeriodAsking returns arguments with which most functions succeed, and all lists have room behind them.
func drawPeriodAsking(seed uint64) periodAsking {
	r := drawer(seed)
	a := periodAsking{nodes: 1 + r.Int64N(6), events: 2 + r.Int64N(3), period: 2 + r.Int64N(7), rounds: 1 + r.Int64N(20), turn: r.Int64N(2001) - 1000, steps: 1 + r.Int64N(100), most: 10000, workers: 1 + r.Int64N(impl.MaxWorkers), lost: 1, cycle: 9, speed: 2, green: r.Float32()}
	a.arcs = drawMarkedArcs(r, a.nodes, 1+r.IntN(12), 3)
	a.long, a.by = r.Int64N(40), 1+r.Int64N(4)
	ring := drawRing(r, int(a.events), a.period)
	a.rules, a.ring, a.along = ring.rules, ring.ring, ring.along
	a.times, a.delays = drawList(r, int(a.events), 0, a.period-1), drawList(r, int(a.events), 0, 9)
	a.late = drawDelays(r, a.events, r.IntN(5))
	blocks := 1 + r.IntN(impl.MaxBlocks)
	a.runs, a.others, a.heads = drawList(r, blocks, 0, 9), drawList(r, blocks, 0, 9), drawList(r, 1+r.IntN(impl.MaxEvents), 0, 40)
	a.soaks, a.moves = drawList(r, blocks, 0, 9), drawList(r, blocks+1, 1, 9)
	for range 1 + r.IntN(impl.MaxEvents) {
		a.flows, a.places = append(a.flows, r.Float32()/12), append(a.places, 50*r.Float32())
	}
	for range r.IntN(9) {
		a.many = append(a.many, drawRules(r, a.events, r.IntN(4), a.period))
	}
	return a.withRoom()
}

// TestPeriodsKeepArguments calls all functions of chapter 5 twice with lists that have room behind them.
func TestPeriodsKeepArguments(t *testing.T) {
	for seed := range uint64(200) {
		a := drawPeriodAsking(4000 + seed)
		before := a.whole()
		first := ofPeriods(a)
		want(t, "arguments", a.whole(), before)
		want(t, "results for the same arguments", ofPeriods(a), first)
		want(t, "results for equal arguments", ofPeriods(a.copied()), first)
		for workers := int64(1); workers <= impl.MaxWorkers; workers++ {
			a.workers = workers
			want(t, "results by other workers", ofPeriods(a), first)
		}
		want(t, "arguments in the end", a.whole(), before)
	}
}

// TestPeriodsReturnForAll calls all functions of chapter 5 with arguments of all kinds.
func TestPeriodsReturnForAll(t *testing.T) {
	r := drawer(261)
	wild, wildLists := pickers(r, append(wildNumbers(), 3, 12, 13, 20, 21, 32, 33, 60, 61, 100, 101, 1000, 1001, 100000, 100001, -1000, -1001))
	small, smallLists := pickers(r, []int64{0, 1, 1, 2, 2, 3})
	edges := edgeBits()
	for range 4000 {
		// Small numbers are often right, or nearly so.
		any, lists := small, smallLists
		if r.IntN(2) == 0 {
			any, lists = wild, wildLists
		}
		edge := func() float32 {
			if r.IntN(2) == 0 {
				return r.Float32()
			}
			return number(edges[r.IntN(len(edges))])
		}
		n := []int{0, 1, 2, 3, 12, 13, 32, 33, 100}[r.IntN(9)]
		a := periodAsking{times: lists(n), ring: lists(n), delays: lists(n), runs: lists(n), others: lists(n), heads: lists(n), soaks: lists(n), moves: lists(n + r.IntN(2)), nodes: any(), long: any(), by: any(), rounds: any(), events: any(), period: any(), turn: any(), steps: any(), most: any(), workers: any(), lost: edge(), cycle: edge(), speed: edge(), green: edge()}
		for range n {
			a.arcs = append(a.arcs, impl.Arc{From: any(), To: any(), Long: any(), Marks: any()})
			a.rules = append(a.rules, impl.Rule{From: any(), To: any(), Least: any(), Most: any()})
			a.along = append(a.along, r.IntN(2) == 0)
			a.flows, a.places = append(a.flows, edge()), append(a.places, edge())
		}
		a.late = a.rules
		for range r.IntN(10) {
			a.many = append(a.many, a.rules[:r.IntN(n+1)])
		}
		want(t, "results for equal arguments", ofPeriods(a.copied()), ofPeriods(a))
	}
}

// TestPeriodsReturnForLongLists calls them with lists that are far too long.
func TestPeriodsReturnForLongLists(t *testing.T) {
	const far = 300000
	long, numbers := repeated[int64](0, far), repeated[float32](0.5, far)
	a := periodAsking{arcs: repeated(impl.Arc{Marks: 1}, far), rules: repeated(impl.Rule{To: 1}, far), along: repeated(true, far), nodes: 1, long: 1, by: 1, rounds: 1, events: 2, period: 2, most: 1, steps: 1, workers: 1, cycle: 1, speed: 1, flows: numbers, places: numbers}
	a.late, a.many = a.rules, [][]impl.Rule{a.rules}
	for _, list := range a.integers() {
		*list = long
	}
	want(t, "results for long lists", ofPeriods(a.copied()), ofPeriods(a))
	wantNotTold(t, "many lists", told(impl.TablesShared(2, make([][]impl.Rule, far), 2, 1)))
	// The other lists are right.
	rules := []impl.Rule{{To: 1}, {From: 1}}
	wantNotTold(t, "long times", told(impl.KeepsRules(2, rules, 2, long)))
	want(t, "a long ring", periodOf(impl.RingGap(rules, 2, long, a.along)), fraction{})
	want(t, "a long way around", periodOf(impl.RingGap(rules, 2, []int64{0, 1}, a.along)), fraction{})
	wantNotTold(t, "long delays", told(impl.SpreadDelays(2, nil, long)))
	wantNotTold(t, "long heads", told(impl.BlockTimes([]int64{1}, long)))
	wantNotTold(t, "long moves", told(impl.HoistPeriod([]int64{1}, long, 9)))
}

// TestPeriodsReturnForGreatSearches calls the searches with as much as they take: many rings, and many ways that are none.
func TestPeriodsReturnForGreatSearches(t *testing.T) {
	arcs := circle(2, 7, 1)
	for node := range int64(8) {
		arcs = append(arcs, impl.Arc{From: node, To: node + 1, Long: 7, Marks: 1})
	}
	wantPeriod(t, "many rings", periodOf(impl.PeriodOf(impl.MaxEvents, arcs)), 7, 1)
	wantTold(t, "many slow rings", told(impl.SlowRing(impl.MaxEvents, arcs)), upwards(impl.MaxEvents))
	wantTold(t, "many rings that are short enough", told(impl.IsPeriod(impl.MaxEvents, arcs, 7, 1)), true)
	for i, arc := range arcs {
		if arc.To == 0 {
			arcs[i].To = 11
		}
	}
	wantPeriod(t, "many ways", periodOf(impl.PeriodOf(impl.MaxEvents, arcs)), 7, 1)
	wantTold(t, "a ring at their end", told(impl.SlowRing(impl.MaxEvents, arcs)), []int64{11})
	most := repeated(impl.Rule{From: 3, To: 0, Least: 15, Most: 30}, impl.MaxRules)
	for workers := int64(1); workers <= impl.MaxWorkers; workers++ {
		wantTold(t, "many tables", told(impl.TablesShared(4, slices.Repeat([][]impl.Rule{most}, 8), 16, workers)), repeated[int64](4096, 8))
	}
}

// TestPeriodsTakeNilAsEmpty checks that nil and empty lists are the same.
func TestPeriodsTakeNilAsEmpty(t *testing.T) {
	without := periodAsking{nodes: 1, long: 1, by: 1, rounds: 1, events: 1, period: 1, steps: 1, most: 1, workers: 1, cycle: 1, speed: 1, green: 1}
	none := without
	none.arcs, none.rules, none.late, none.along = []impl.Arc{}, []impl.Rule{}, []impl.Rule{}, []bool{}
	none.many, none.flows, none.places = [][]impl.Rule{}, []float32{}, []float32{}
	for _, list := range none.integers() {
		*list = []int64{}
	}
	want(t, "results for empty lists", ofPeriods(none), ofPeriods(without))
	none.times, without.times = []int64{0}, []int64{0}
	none.delays, without.delays = []int64{3}, []int64{3}
	none.many, without.many = [][]impl.Rule{{}, {}}, [][]impl.Rule{nil, nil}
	want(t, "results for empty lists beside others", ofPeriods(none), ofPeriods(without))
}
