package tests

import (
	"math"
	"slices"
	"testing"

	"loop.example/g01389/impl"
)

// changesByHand returns the cost of all changes.
func changesByHand(order, costs []int64) int64 {
	n := int64(len(order))
	sum := costs[order[0]*(n+1)]
	for i := range n - 1 {
		sum += costs[order[i]*n+order[i+1]]
	}
	return sum
}

func TestChangeCost(t *testing.T) {
	costs := []int64{5, 1, 2, 9}
	for _, c := range []struct {
		order []int64
		cost  int64
	}{{[]int64{0, 1}, 6}, {[]int64{1, 0}, 11}} {
		cost, ok := impl.ChangeCost(c.order, costs)
		want(t, "changes", ok && cost == c.cost, true)
	}
	cost, ok := impl.ChangeCost([]int64{0}, []int64{impl.MaxTime})
	want(t, "one job", ok && cost == impl.MaxTime, true)
	cost, ok = impl.ChangeCost(upwards(impl.MaxSearch), repeated[int64](impl.MaxTime, impl.MaxSearch*impl.MaxSearch))
	want(t, "the greatest costs", ok && cost == impl.MaxSearch*impl.MaxTime, true)
	cost, ok = impl.ChangeCost(upwards(3), repeated[int64](0, 9))
	want(t, "no costs", ok && cost == 0, true)
	r := drawer(19)
	for range 200 {
		n := 1 + r.IntN(impl.MaxSearch)
		costs, order := drawList(r, n*n, 0, 9), drawOrder(r, n)
		cost, ok := impl.ChangeCost(order, costs)
		want(t, "changes by hand", ok && cost == changesByHand(order, costs), true)
	}
}

func TestLeastChanges(t *testing.T) {
	wantPlan(t, "two jobs", planOf(impl.LeastChanges([]int64{5, 1, 2, 9}, 2)), []int64{0, 1}, 6)
	wantPlan(t, "one job", planOf(impl.LeastChanges([]int64{7}, 1)), []int64{0}, 7)
	wantPlan(t, "equal costs", planOf(impl.LeastChanges(repeated[int64](3, 100), impl.MaxSearch)), upwards(impl.MaxSearch), 30)
	// Only the way from the last job down to the first one is free.
	down := repeated[int64](1, 100)
	for i := range 9 {
		down[(i+1)*10+i] = 0
	}
	down[99] = 0
	wanted := upwards(10)
	slices.Reverse(wanted)
	wantPlan(t, "downwards", planOf(impl.LeastChanges(down, impl.MaxSearch)), wanted, 0)
	r := drawer(20)
	for range 120 {
		n := 1 + r.IntN(6)
		costs := drawList(r, n*n, 0, 4)
		order, least := bestByHand(n, func(order []int64) int64 { return changesByHand(order, costs) })
		wantPlan(t, "least changes", planOf(impl.LeastChanges(costs, int64(n))), order, least)
	}
	for range 20 {
		costs := drawList(r, 100, 0, 30)
		best, least, ok := impl.LeastChanges(costs, impl.MaxSearch)
		want(t, "cost of the best order", ok && changesByHand(best, costs) == least, true)
		for range 200 {
			want(t, "no worse than another order", least <= changesByHand(drawOrder(r, impl.MaxSearch), costs), true)
		}
	}
}

func TestChangesFail(t *testing.T) {
	fails := func(what string, costs []int64, n int) {
		t.Helper()
		wantNoPlan(t, what, planOf(impl.LeastChanges(costs, int64(n))))
		cost, ok := impl.ChangeCost(upwards(n), costs)
		wantFailure(t, what, cost, ok)
	}
	fails("no jobs", nil, 0)
	fails("too many jobs", repeated[int64](1, 121), 11)
	fails("too few costs", []int64{1, 1, 1}, 2)
	fails("too many costs", []int64{1, 1, 1, 1, 1}, 2)
	for _, bad := range []int64{-1, impl.MaxTime + 1, math.MinInt64, math.MaxInt64} {
		for at := range 4 {
			costs := repeated[int64](1, 4)
			costs[at] = bad
			fails("a wrong cost", costs, 2)
		}
	}
	for _, n := range []int64{-1, -2, 1 << 32, 1<<32 + 2, math.MinInt64, math.MaxInt64} {
		wantNoPlan(t, "a wrong number of jobs", planOf(impl.LeastChanges(repeated[int64](1, 4), n)))
		wantNoPlan(t, "a wrong number of jobs without costs", planOf(impl.LeastChanges(nil, n)))
	}
	for _, order := range badOrders(3) {
		cost, ok := impl.ChangeCost(order, repeated[int64](1, 9))
		wantFailure(t, "a wrong order", cost, ok)
	}
}

// batchesByHand returns the best batches of all, and their cost: of several, those that are least, read from behind.
func batchesByHand(jobs []impl.Job, change int64, most int) ([]int64, int64) {
	var best []int64
	var least int64
	// The binary digits of ways tell behind which jobs a batch ends.
	for way := range 1 << (len(jobs) - 1) {
		batches := []int64{0}
		for i := range jobs {
			batches[len(batches)-1]++
			if i+1 < len(jobs) && way>>i&1 == 1 {
				batches = append(batches, 0)
			}
		}
		if slices.Max(batches) > int64(most) {
			continue
		}
		cost := batchCostByHand(jobs, change, batches)
		if best == nil || cost < least || cost == least && isLessFromBehind(batches, best) {
			best, least = batches, cost
		}
	}
	return best, least
}

func batchCostByHand(jobs []impl.Job, change int64, batches []int64) int64 {
	var now, cost int64
	first := int64(0)
	for _, size := range batches {
		now += change
		batch := jobs[first : first+size]
		for _, job := range batch {
			now += job.Time
		}
		for _, job := range batch {
			cost += now * job.Weight
		}
		first += size
	}
	return cost
}

func isLessFromBehind(a, b []int64) bool {
	x, y := slices.Clone(a), slices.Clone(b)
	slices.Reverse(x)
	slices.Reverse(y)
	return slices.Compare(x, y) < 0
}

func TestBatchPlan(t *testing.T) {
	two := []impl.Job{{Time: 2, Due: 2, Weight: 1}, {Time: 1, Due: 2, Weight: 1}}
	cases := []struct {
		jobs         []impl.Job
		change, most int64
		batches      []int64
		cost         int64
	}{
		// One batch costs 8, too, but the last one has fewer jobs if there are two.
		{two, 1, 2, []int64{1, 1}, 8},
		{two, 2, 2, []int64{2}, 10},
		{two, 2, 1, []int64{1, 1}, 11},
		{two, 0, 24, []int64{1, 1}, 5},
		// Without weights, all ways cost as much.
		{repeated(impl.Job{Time: 3}, 5), 4, 3, []int64{1, 1, 1, 1, 1}, 0},
		{repeated(impl.Job{Time: 1, Weight: 1}, 4), impl.MaxTime, 4, []int64{4}, 4 * 10004},
		{repeated(impl.Job{Time: 1, Weight: 1}, 4), impl.MaxTime, 3, []int64{3, 1}, 3*10003 + 20004},
		{repeated(impl.Job{Time: 1, Weight: 1}, 5), impl.MaxTime, 3, []int64{3, 2}, 3*10003 + 2*20005},
		{[]impl.Job{{Time: impl.MaxTime, Weight: impl.MaxTime}}, impl.MaxTime, impl.MaxJobs, []int64{1}, 2 * impl.MaxTime * impl.MaxTime},
	}
	for _, c := range cases {
		wantPlan(t, "batches", planOf(impl.BatchPlan(c.jobs, c.change, c.most)), c.batches, c.cost)
	}
	r := drawer(21)
	for range 300 {
		jobs := drawJobs(r, 1+r.IntN(9), 1)
		change, most := r.Int64N(6), 1+r.IntN(9)
		batches, cost := batchesByHand(jobs, change, most)
		wantPlan(t, "batches by hand", planOf(impl.BatchPlan(jobs, change, int64(most))), batches, cost)
	}
	for range 50 {
		jobs := drawJobs(r, impl.MaxJobs, 1)
		change, most := r.Int64N(6), 1+r.IntN(impl.MaxJobs)
		batches, cost, ok := impl.BatchPlan(jobs, change, int64(most))
		want(t, "cost of batches", ok && batchCostByHand(jobs, change, batches) == cost, true)
		same := slices.Max(batches) <= int64(most) && cost <= batchCostByHand(jobs, change, repeated[int64](1, impl.MaxJobs))
		want(t, "no worse than one by one", same, true)
	}
}

func TestBatchPlanFails(t *testing.T) {
	good := []impl.Job{{Time: 2, Weight: 1}, {Time: 1, Weight: 1}}
	for _, change := range []int64{-1, impl.MaxTime + 1, math.MinInt64, math.MaxInt64} {
		wantNoPlan(t, "a wrong change", planOf(impl.BatchPlan(good, change, 2)))
	}
	for _, most := range []int64{0, -1, impl.MaxJobs + 1, math.MinInt64, math.MaxInt64} {
		wantNoPlan(t, "a wrong size", planOf(impl.BatchPlan(good, 1, most)))
	}
	for _, jobs := range badJobs() {
		wantNoPlan(t, "wrong jobs", planOf(impl.BatchPlan(jobs, 1, 2)))
	}
	wantNoPlan(t, "a release", planOf(impl.BatchPlan([]impl.Job{{Time: 1}, {Time: 1, Release: 1}}, 1, 2)))
}
