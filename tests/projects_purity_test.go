package tests

import (
	"math"
	"slices"
	"testing"

	"loop.example/g01389/impl"
)

// copyOfTasks returns tasks that share no memory with a list, without any room behind theirs.
func copyOfTasks(list []impl.Task) []impl.Task {
	other := slices.Clip(slices.Clone(list))
	for i := range other {
		other[i].Before = slices.Clip(slices.Clone(other[i].Before))
		other[i].Lags = slices.Clip(slices.Clone(other[i].Lags))
	}
	return other
}

// A project is what functions of chapter 3 are asked for.
type project struct {
	list                        []impl.Task
	order, starts, most, crews  []int64
	means, spreads              []float32
	crew, kind, end, rounds, at int64
	seed, count, workers        int64
	low, likely, high           float32
}

// copied returns a project that shares no memory with p, without any room behind its lists.
func (p project) copied() project {
	q := p
	q.list = copyOfTasks(p.list)
	for _, list := range []*[]int64{&q.order, &q.starts, &q.most, &q.crews} {
		*list = slices.Clip(slices.Clone(*list))
	}
	for _, list := range []*[]float32{&q.means, &q.spreads} {
		*list = slices.Clip(slices.Clone(*list))
	}
	return q
}

// spoil tells a list, and then changes all of its memory.
func spoil[T any](w *telling, list []T, filler T) {
	w.add(list)
	for i := range list[:cap(list)] {
		list[:cap(list)][i] = filler
	}
}

// ofProjects tells the results of all functions of chapter 3, and spoils each list that is returned.
func ofProjects(p project) string {
	w := &telling{}
	list := func(list []int64, ok bool) { w.add(ok); spoil(w, list, -77) }
	both := func(list []int64, n int64, ok bool) { w.add(n, ok); spoil(w, list, -77) }
	number := func(n int64, ok bool) { w.add(n, ok) }
	w.add(impl.AreTasks(p.list), impl.SameTasks(p.list, p.list[:len(p.list)/2]), impl.IsCrewPlan(p.list, p.starts, p.crew))
	both(impl.EarlyStarts(p.list))
	list(impl.LateStarts(p.list, p.end))
	list(impl.SlackOf(p.list))
	list(impl.FreeSlackOf(p.list))
	list(impl.LongestWay(p.list))
	number(impl.CountWays(p.list))
	list(impl.BehindOf(p.list))
	list(impl.CrewUse(p.list, p.starts))
	both(impl.OrderPlan(p.list, p.order, p.crew))
	both(impl.RulePlan(p.list, p.kind, p.crew))
	both(impl.BestPlan(p.list, p.crew))
	number(impl.PlanBound(p.list, p.crew))
	both(impl.LevelPlan(p.list, p.end, p.rounds))
	list(impl.CrewsShared(p.list, p.crews, p.workers))
	both(impl.HastePlan(p.list, p.most, p.starts, p.end))
	mean, spread, ok := impl.MeanTime(p.low, p.likely, p.high)
	w.add(mean, spread, ok)
	chance, ok := impl.EndChance(p.means, p.spreads, p.low)
	w.add(chance, ok)
	time, seed, ok := impl.TimeDrawn(p.low, p.likely, p.high, p.seed)
	w.add(time, seed, ok)
	ends, shares, seed, ok := impl.EndsDrawn(p.list, p.low, p.high, p.seed, p.count)
	w.add(seed, ok)
	spoil(w, ends, -77)
	spoil(w, shares, -77)
	buffer, ok := impl.BufferOf(p.spreads, p.high)
	w.add(buffer, ok)
	done, all, ok := impl.ProgressOf(p.list, p.starts, p.at)
	w.add(done, all, ok)
	return w.String()
}

// wholeProject returns all lists of a project, with the room behind them.
func wholeProject(p project) string {
	w := &telling{}
	for _, task := range p.list[:cap(p.list)] {
		w.add(task.Time, task.Needs, task.Before[:cap(task.Before)], task.Lags[:cap(task.Lags)])
	}
	for _, list := range [][]int64{p.order, p.starts, p.most, p.crews} {
		w.add(list[:cap(list)])
	}
	w.add(p.means[:cap(p.means)], p.spreads[:cap(p.spreads)])
	return w.String()
}

// drawProject returns arguments with which most functions succeed, and all lists have room behind them.
func drawProject(seed uint64) project {
	r := drawer(seed)
	n := 1 + r.IntN(7)
	list := drawTasks(r, n, -r.Int64N(4))
	for i := range list {
		list[i].Before, _ = spare(list[i].Before, 0)
		list[i].Lags, _ = spare(list[i].Lags, 0)
	}
	p := project{crew: mostNeeds(list) + 1, kind: r.Int64N(kindsOfPlans), end: 40, rounds: r.Int64N(9), at: r.Int64N(20), seed: int64(r.Uint32()), count: 1 + r.Int64N(64), workers: 1 + r.Int64N(impl.MaxWorkers), low: r.Float32(), likely: 1, high: 1.5 + r.Float32()}
	starts, _, _ := impl.EarlyStarts(list)
	p.list, _ = spare(list, impl.Task{Time: 1})
	p.order, _ = spare(upwards(n), 0)
	p.starts, _ = spare(starts, 5)
	p.most, _ = spare(drawList(r, n, 0, 3), 5)
	p.crews, _ = spare(drawList(r, r.IntN(17), p.crew, impl.MaxCrew), 5)
	for range n {
		p.means = append(p.means, r.Float32())
		p.spreads = append(p.spreads, r.Float32())
	}
	p.means, _ = spare(p.means, 5)
	p.spreads, _ = spare(p.spreads, 5)
	return p
}

// TestProjectsKeepArguments calls all functions of chapter 3 twice with lists that have room behind them.
func TestProjectsKeepArguments(t *testing.T) {
	for seed := range uint64(200) {
		p := drawProject(2000 + seed)
		before := wholeProject(p)
		first := ofProjects(p)
		want(t, "arguments", wholeProject(p), before)
		want(t, "results for the same arguments", ofProjects(p), first)
		want(t, "results for equal arguments", ofProjects(p.copied()), first)
		for workers := int64(1); workers <= impl.MaxWorkers; workers++ {
			p.workers = workers
			want(t, "results by other workers", ofProjects(p), first)
		}
		want(t, "arguments in the end", wholeProject(p), before)
	}
}

// TestProjectsReturnForAll calls all functions of chapter 3 with arguments of all kinds.
func TestProjectsReturnForAll(t *testing.T) {
	r := drawer(71)
	any, lists := pickers(r, append(wildNumbers(), 3, 16, 20, 21, 100, 101, -100, -101, 400, 401, 100000, 100001))
	edges := edgeBits()
	edge := func() float32 { return number(edges[r.IntN(len(edges))]) }
	for range 3000 {
		n := []int{0, 1, 2, 3, 7, 8, 16, 17, 100}[r.IntN(9)]
		p := project{order: lists(n), starts: lists(n), most: lists(n), crews: lists(r.IntN(18)), crew: any(), kind: any(), end: any(), rounds: any(), at: any(), seed: any(), count: any(), workers: any(), low: edge(), likely: edge(), high: edge()}
		p.list = drawTasks(r, n, -2)
		for i := range p.list {
			switch r.IntN(6 * n) {
			case 0:
				p.list[i] = impl.Task{Time: any(), Needs: any()}
			case 1:
				p.list[i].Before, p.list[i].Lags = lists(r.IntN(3)), lists(r.IntN(3))
			}
			p.means = append(p.means, edge())
			p.spreads = append(p.spreads, edge())
		}
		want(t, "results for equal arguments", ofProjects(p.copied()), ofProjects(p))
	}
}

// TestProjectsReturnForLongLists calls them with lists that are far too long, and tasks with such ones.
func TestProjectsReturnForLongLists(t *testing.T) {
	long, numbers := repeated[int64](1, 300000), repeated[float32](1, 300000)
	p := project{list: repeated(impl.Task{Time: 1}, len(long)), order: long, starts: long, most: long, crews: long, means: numbers, spreads: numbers, crew: 1, end: 100, count: 1, workers: 1, low: 0, likely: 1, high: 2}
	want(t, "results for long lists", ofProjects(p.copied()), ofProjects(p))
	p.list = []impl.Task{{Before: upwards(300000), Lags: long}, {Before: long, Lags: long}}
	want(t, "results for long tasks", ofProjects(p.copied()), ofProjects(p))
}

// TestProjectsTakeNilAsEmpty checks that nil and empty lists are the same.
func TestProjectsTakeNilAsEmpty(t *testing.T) {
	empty := []int64{}
	p := project{order: empty, starts: empty, most: empty, crews: empty, means: []float32{}, spreads: []float32{}, crew: 1, end: 9, count: 1, workers: 1, high: 2, likely: 1}
	q := project{crew: 1, end: 9, count: 1, workers: 1, high: 2, likely: 1}
	for _, pair := range [][2][]impl.Task{{{}, nil}, {{{Time: 2, Before: empty, Lags: empty}}, {{Time: 2}}}} {
		p.list, q.list = pair[0], pair[1]
		want(t, "results for empty lists", ofProjects(p), ofProjects(q))
	}
	p.low, q.low = math.MaxFloat32, math.MaxFloat32
	want(t, "failures for empty lists", ofProjects(p), ofProjects(q))
}
