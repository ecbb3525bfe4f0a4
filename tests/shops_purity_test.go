package tests

import (
	"slices"
	"testing"

	"loop.example/g01389/impl"
)

// A shopAsking is what functions of chapter 4 are asked for; times are those of shops, and tasks those of lines.
type shopAsking struct {
	times, order, routes, turns, starts    []int64
	tasks, before, stations, counts, mixed []int64
	lists                                  [][]int64
	machines, cycle, workers               int64
}

// allLists returns all lists of an asking.
func (a *shopAsking) allLists() []*[]int64 {
	lists := []*[]int64{&a.times, &a.order, &a.routes, &a.turns, &a.starts, &a.tasks, &a.before, &a.stations, &a.counts, &a.mixed}
	for i := range a.lists {
		lists = append(lists, &a.lists[i])
	}
	return lists
}

// copied returns an asking that shares no memory with a, without any room behind its lists.
func (a shopAsking) copied() shopAsking {
	a.lists = slices.Clip(slices.Clone(a.lists))
	for _, list := range a.allLists() {
		*list = slices.Clip(slices.Clone(*list))
	}
	return a
}

// withRoom returns a copy of an asking, the lists of which have room behind them.
func (a shopAsking) withRoom() shopAsking {
	a.lists = slices.Clone(a.lists)
	for _, list := range a.allLists() {
		*list, _ = spare(*list, 5)
	}
	return a
}

// whole returns all lists of an asking, with the room behind them.
func (a shopAsking) whole() string {
	w := &telling{}
	for _, list := range a.allLists() {
		w.add((*list)[:cap(*list)])
	}
	return w.String()
}

// ofShops tells the results of all functions of chapter 4, and spoils each list that is returned.
func ofShops(a shopAsking) string {
	w := &telling{}
	list := func(list []int64, ok bool) { w.add(ok); spoil(w, list, -77) }
	both := func(list []int64, n int64, ok bool) { w.add(n, ok); spoil(w, list, -77) }
	number := func(n int64, ok bool) { w.add(n, ok) }
	reports := func(answer, ok bool) { w.add(answer, ok) }
	list(impl.FlowEnds(a.times, a.machines, a.order))
	number(impl.FlowLast(a.times, a.machines, a.order))
	list(impl.TwoOrder(a.times))
	both(impl.InsertOrder(a.times, a.machines))
	number(impl.FlowBound(a.times, a.machines))
	both(impl.BestFlow(a.times, a.machines))
	list(impl.NoWaitGaps(a.times, a.machines))
	number(impl.NoWaitLast(a.times, a.machines, a.order))
	number(impl.BlockLast(a.times, a.machines, a.order))
	number(impl.OpenBound(a.times, a.machines))
	both(impl.OpenPlan(a.times, a.machines))
	reports(impl.IsOpenPlan(a.times, a.machines, a.starts))
	w.add(impl.AreRoutes(a.routes, a.machines))
	both(impl.ShopStarts(a.routes, a.times, a.machines, a.turns))
	reports(impl.IsShopPlan(a.routes, a.times, a.machines, a.starts))
	number(impl.ShopBound(a.routes, a.times, a.machines))
	both(impl.BestShop(a.routes, a.times, a.machines))
	w.add(impl.IsLine(a.tasks, a.before))
	list(impl.LineStations(a.tasks, a.before, a.cycle))
	number(impl.LineBound(a.tasks, a.cycle))
	both(impl.LeastStations(a.tasks, a.before, a.cycle))
	list(impl.LoadsOfLine(a.tasks, a.stations))
	list(impl.MixedOrder(a.counts))
	number(impl.MixedGap(a.counts, a.mixed))
	list(impl.FlowsShared(a.lists, a.machines, a.workers))
	return w.String()
}

// drawShopAsking returns arguments with which most functions succeed, and all lists have room behind them.
func drawShopAsking(seed uint64) shopAsking {
	r := drawer(seed)
	jobs, machines := 1+r.IntN(4), 1+r.IntN(3)
	l := drawLine(r, 1+r.IntN(8), 9)
	a := shopAsking{machines: int64(machines), cycle: slices.Max(l.times) + r.Int64N(9), workers: 1 + r.Int64N(impl.MaxWorkers)}
	a.times, a.order = drawList(r, jobs*machines, 1, 9), drawOrder(r, jobs)
	a.routes, a.turns = drawRoutes(r, jobs, machines), drawTurns(r, jobs, machines)
	a.starts, _, _ = impl.ShopStarts(a.routes, a.times, a.machines, a.turns)
	a.tasks, a.before, a.stations = l.times, l.before, drawList(r, len(l.times), 0, 11)
	a.counts = drawList(r, 1+r.IntN(8), 0, 7)
	a.counts[0]++
	a.mixed = mixByHand(a.counts)
	for range 1 + r.IntN(16) {
		a.lists = append(a.lists, drawList(r, machines*(1+r.IntN(10)), 1, 9))
	}
	return a.withRoom()
}

// TestShopsKeepArguments calls all functions of chapter 4 twice with lists that have room behind them.
func TestShopsKeepArguments(t *testing.T) {
	for seed := range uint64(200) {
		a := drawShopAsking(3000 + seed)
		before := a.whole()
		first := ofShops(a)
		want(t, "arguments", a.whole(), before)
		want(t, "results for the same arguments", ofShops(a), first)
		want(t, "results for equal arguments", ofShops(a.copied()), first)
		for workers := int64(1); workers <= impl.MaxWorkers; workers++ {
			a.workers = workers
			want(t, "results by other workers", ofShops(a), first)
		}
		want(t, "arguments in the end", a.whole(), before)
	}
}

// TestShopsReturnForAll calls all functions of chapter 4 with arguments of all kinds.
func TestShopsReturnForAll(t *testing.T) {
	r := drawer(161)
	wild, wildLists := pickers(r, append(wildNumbers(), 3, 7, 12, 13, 16, 17, 64, 65))
	small, smallLists := pickers(r, []int64{0, 1, 1, 2, 2, 3})
	for range 4000 {
		// Small numbers are often right, or nearly so.
		any, lists := small, smallLists
		if r.IntN(2) == 0 {
			any, lists = wild, wildLists
		}
		n := []int{0, 1, 2, 3, 4, 6, 8, 9, 12, 13, 64, 100, 192, 200}[r.IntN(14)]
		a := shopAsking{times: lists(n), order: lists(r.IntN(25)), routes: lists(n), turns: lists(n), starts: lists(n), tasks: lists(n), before: lists(n), stations: lists(n), counts: lists(r.IntN(10)), mixed: lists(n), machines: any(), cycle: any(), workers: any()}
		for range r.IntN(18) {
			a.lists = append(a.lists, lists(r.IntN(26)))
		}
		want(t, "results for equal arguments", ofShops(a.copied()), ofShops(a))
	}
}

// TestShopsReturnForLongLists calls them with lists that are far too long.
func TestShopsReturnForLongLists(t *testing.T) {
	long := repeated[int64](1, 300000)
	a := shopAsking{times: long, order: long, routes: long, turns: long, starts: long, tasks: long, before: long, stations: long, counts: long, mixed: long, lists: [][]int64{long}, machines: 1, cycle: 1, workers: 1}
	want(t, "results for long lists", ofShops(a.copied()), ofShops(a))
	a.lists = repeated(long, 300000)
	wantNotTold(t, "many long lists", told(impl.FlowsShared(a.lists, 1, 1)))
	// The other lists are right.
	short := []int64{1}
	wantNotTold(t, "a long order", told(impl.FlowEnds(short, 1, long)))
	wantNotTold(t, "long starts", told(impl.IsOpenPlan(short, 1, long)))
	wantNoPlan(t, "long turns", planOf(impl.ShopStarts([]int64{0}, short, 1, make([]int64, 300000))))
	wantNotTold(t, "a long list of stations", told(impl.LoadsOfLine(short, long)))
	wantNotTold(t, "a long order of models", told(impl.MixedGap(short, make([]int64, 300000))))
}

// TestShopsReturnForGreatSearches calls the searches with as much as they take.
func TestShopsReturnForGreatSearches(t *testing.T) {
	most := repeated[int64](impl.MaxTime, impl.MaxJobs*impl.MaxMachines)
	_, last, ok := impl.InsertOrder(most, impl.MaxMachines)
	want(t, "insertions", ok && last == impl.MaxTime*(impl.MaxJobs+impl.MaxMachines-1), true)
	lasts, ok := impl.FlowsShared(repeated(most, 16), impl.MaxMachines, 3)
	want(t, "shared insertions", ok && slices.Equal(lasts, repeated(last, 16)), true)
	_, last, ok = impl.OpenPlan(most, impl.MaxMachines)
	want(t, "open plan", ok && last >= impl.MaxJobs*impl.MaxTime, true)
	wantPlan(t, "stations", planOf(impl.LeastStations(repeated[int64](1, 12), make([]int64, 12), impl.MaxTime)), make([]int64, 12), 1)
}

// TestShopsTakeNilAsEmpty checks that nil and empty lists are the same.
func TestShopsTakeNilAsEmpty(t *testing.T) {
	without := shopAsking{lists: [][]int64{nil}, machines: 1, cycle: 1, workers: 1}
	none := without
	none.lists = [][]int64{nil}
	for _, list := range none.allLists() {
		*list = []int64{}
	}
	want(t, "results for empty lists", ofShops(none), ofShops(without))
	none.tasks, without.tasks = []int64{1}, []int64{1}
	want(t, "results for empty lists beside others", ofShops(none), ofShops(without))
}
