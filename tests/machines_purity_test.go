package tests

import (
	"math"
	"slices"
	"testing"

	"loop.example/g01389/impl"
)

// An asking is what functions of chapter 2 are asked for.
type asking struct {
	jobs                              []impl.Job
	order, starts, times, costs       []int64
	lists                             [][]int64
	kind, at, machines, workers, most int64
}

// copied returns an asking that shares no memory with a, without any room behind its lists.
func (a asking) copied() asking {
	b := a
	b.jobs = slices.Clip(slices.Clone(a.jobs))
	for _, list := range []*[]int64{&b.order, &b.starts, &b.times, &b.costs} {
		*list = slices.Clip(slices.Clone(*list))
	}
	b.lists = nil
	for _, list := range a.lists {
		b.lists = append(b.lists, slices.Clip(slices.Clone(list)))
	}
	return b
}

// ofMachines tells the results of all functions of chapter 2, and spoils each list that is returned.
func ofMachines(a asking) string {
	w := &telling{}
	add := func(results ...any) {
		w.add(results...)
		for _, r := range results {
			if list, ok := r.([]int64); ok {
				for i := range list[:cap(list)] {
					list[:cap(list)][i] = -77
				}
			}
		}
	}
	list := func(list []int64, ok bool) { add(list, ok) }
	number := func(n int64, ok bool) { add(n, ok) }
	both := func(list []int64, n int64, ok bool) { add(list, n, ok) }
	add(impl.AreJobs(a.jobs), impl.SameJobs(a.jobs, a.jobs[:len(a.jobs)/2]), impl.IsOrder(a.order, a.most))
	list(impl.EndsOf(a.jobs, a.order))
	number(impl.CostOf(a.jobs, a.order, a.kind))
	list(impl.OrderBy(a.jobs, a.kind))
	number(impl.SwapGain(a.jobs, a.order, a.at, a.kind))
	both(impl.FewestLate(a.jobs))
	both(impl.BestOrder(a.jobs, a.kind))
	both(impl.BestReleased(a.jobs, a.kind))
	ends, pieces, ok := impl.PieceEnds(a.jobs, a.kind)
	add(ends, ok)
	add(pieces)
	plan, ok := impl.IsJobPlan(a.jobs, a.starts)
	add(plan, ok)
	number(impl.IdleOf(a.jobs, a.starts))
	mean, ok := impl.MeanFlow(a.jobs, a.order)
	add(mean, ok)
	both(impl.ListPlan(a.times, a.order, a.machines))
	both(impl.LongestFirst(a.times, a.machines))
	number(impl.LastBound(a.times, a.machines))
	both(impl.LeastLast(a.times, a.machines))
	upper, lower, ok := impl.RatioOf(a.times, a.machines)
	add(upper, lower, ok)
	both(impl.UnlikeList(a.times, a.machines))
	both(impl.UnlikeLeast(a.times, a.machines))
	number(impl.ChangeCost(a.order, a.costs))
	both(impl.LeastChanges(a.costs, a.most))
	both(impl.BatchPlan(a.jobs, a.at, a.most))
	list(impl.LastsShared(a.lists, a.machines, a.workers))
	return w.String()
}

// TestPiecesShareNoMemory checks that both lists of PieceEnds are told apart.
func TestPiecesShareNoMemory(t *testing.T) {
	ends, pieces, _ := impl.PieceEnds(repeated(impl.Job{Time: 2}, 3), 0)
	for i := range ends[:cap(ends)] {
		ends[:cap(ends)][i] = -77
	}
	wantList(t, "pieces", pieces, []int64{1, 1, 1})
}

// drawAsking returns arguments with which most functions succeed, and all lists have room behind them.
func drawAsking(seed uint64) asking {
	r := drawer(seed)
	n := 1 + r.IntN(6)
	a := asking{kind: r.Int64N(kindsOfCosts), at: r.Int64N(int64(n)), machines: 1 + r.Int64N(3), workers: 1 + r.Int64N(impl.MaxWorkers), most: int64(n)}
	a.jobs, _ = spare(drawJobs(r, n, 1+4*r.Int64N(2)), impl.Job{Time: 1})
	a.order, _ = spare(drawOrder(r, n), 0)
	a.starts, _ = spare(drawList(r, n, 0, 60), 5)
	a.times, _ = spare(drawList(r, n, 1, 9), 5)
	a.costs, _ = spare(drawList(r, n*n, 0, 9), 5)
	for range 1 + r.IntN(16) {
		list, _ := spare(drawList(r, 1+r.IntN(impl.MaxJobs), 1, 9), 5)
		a.lists = append(a.lists, list)
	}
	return a
}

// wholeOf returns all lists of arguments, with the room behind them.
func wholeOf(a asking) string {
	w := &telling{}
	w.add(a.jobs[:cap(a.jobs)])
	for _, list := range append([][]int64{a.order, a.starts, a.times, a.costs}, a.lists...) {
		w.add(list[:cap(list)])
	}
	return w.String()
}

// TestMachinesKeepArguments calls all functions of chapter 2 twice with lists that have room behind them.
func TestMachinesKeepArguments(t *testing.T) {
	for seed := range uint64(300) {
		a := drawAsking(1000 + seed)
		before := wholeOf(a)
		first := ofMachines(a)
		want(t, "arguments", wholeOf(a), before)
		want(t, "results for the same arguments", ofMachines(a), first)
		want(t, "results for equal arguments", ofMachines(a.copied()), first)
		want(t, "arguments in the end", wholeOf(a), before)
		for workers := int64(1); workers <= impl.MaxWorkers; workers++ {
			a.workers = workers
			want(t, "results by other workers", ofMachines(a), first)
		}
	}
}

// wildNumbers are integers at the limits, and far behind them.
func wildNumbers() []int64 {
	return []int64{
		math.MinInt64, math.MinInt64 + 1, -1, 0, 1, 2, 8, 9, 10, 11, 24, 25, impl.MaxTime, impl.MaxTime + 1,
		1000000, 1000001, 1 << 32, math.MaxInt64 - 1, math.MaxInt64,
	}
}

// TestMachinesReturnForAll calls all functions of chapter 2 with arguments of all kinds.
func TestMachinesReturnForAll(t *testing.T) {
	r := drawer(22)
	any, lists := pickers(r, wildNumbers())
	for range 3000 {
		n := []int{0, 1, 2, 3, 10, 11, 24, 25, 100}[r.IntN(9)]
		a := asking{order: lists(n), starts: lists(n), times: lists(n), costs: lists(n * n), kind: any(), at: any(), machines: any(), workers: any(), most: any()}
		for range n {
			a.jobs = append(a.jobs, impl.Job{Time: any(), Release: any(), Due: any(), Weight: any()})
		}
		for range r.IntN(18) {
			a.lists = append(a.lists, lists(r.IntN(26)))
		}
		want(t, "results for equal arguments", ofMachines(a.copied()), ofMachines(a))
	}
	long := repeated[int64](1, 300000)
	a := asking{jobs: repeated(impl.Job{Time: 1}, len(long)), order: long, starts: long, times: long, costs: long, lists: [][]int64{long}, machines: 1, workers: 1, most: 1}
	want(t, "results for long lists", ofMachines(a.copied()), ofMachines(a))
}

// TestMachinesTakeNilAsEmpty checks that nil and empty lists are the same.
func TestMachinesTakeNilAsEmpty(t *testing.T) {
	none := asking{jobs: []impl.Job{}, order: []int64{}, starts: []int64{}, times: []int64{}, costs: []int64{}, lists: [][]int64{{}}, machines: 1, workers: 1, most: 1}
	without := asking{lists: [][]int64{nil}, machines: 1, workers: 1, most: 1}
	want(t, "results for empty lists", ofMachines(none), ofMachines(without))
}
