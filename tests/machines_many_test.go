package tests

import (
	"math"
	"slices"
	"testing"

	"loop.example/g01389/impl"
)

// leastByHand returns the first plan of unlike times with the least last end, and this, after a look at all of them.
func leastByHand(times []int64, machines int) ([]int64, int64) {
	jobs := len(times) / machines
	ways := 1
	for range jobs {
		ways *= machines
	}
	var best []int64
	var least int64
	for way := range ways {
		plan := make([]int64, jobs)
		for job := jobs - 1; job >= 0; job-- {
			plan[job] = int64(way % machines)
			way /= machines
		}
		if last := lastOf(times, machines, plan); best == nil || last < least {
			best, least = plan, last
		}
	}
	return best, least
}

// lastOf returns the last end of a plan of unlike times.
func lastOf(times []int64, machines int, plan []int64) int64 {
	ends := make([]int64, machines)
	for job, machine := range plan {
		ends[machine] += times[job*machines+int(machine)]
	}
	return slices.Max(ends)
}

// asUnlike returns the times of unlike machines that are alike.
func asUnlike(times []int64, machines int) []int64 {
	var unlike []int64
	for _, time := range times {
		unlike = append(unlike, repeated(time, machines)...)
	}
	return unlike
}

func TestListPlan(t *testing.T) {
	cases := []struct {
		times, order []int64
		machines     int64
		plan         []int64
		last         int64
	}{
		{[]int64{3, 3, 2, 2, 2}, []int64{4, 3, 2, 1, 0}, 2, []int64{0, 1, 0, 1, 0}, 7},
		{[]int64{3, 3, 2, 2, 2}, []int64{0, 1, 2, 3, 4}, 2, []int64{0, 1, 0, 1, 0}, 7},
		{[]int64{5, 1, 1, 4}, []int64{1, 0, 2, 3}, 2, []int64{1, 0, 0, 0}, 6},
		// There are machines without jobs.
		{[]int64{5, 7}, []int64{1, 0}, 8, []int64{1, 0}, 7},
		{[]int64{5}, []int64{0}, 8, []int64{0}, 5},
		{[]int64{5, 7}, []int64{1, 0}, 1, []int64{0, 0}, 12},
		// Equal jobs go from machine to machine.
		{repeated[int64](2, 7), upwards(7), 3, []int64{0, 1, 2, 0, 1, 2, 0}, 6},
		{repeated[int64](impl.MaxTime, impl.MaxJobs), upwards(impl.MaxJobs), 1, repeated[int64](0, impl.MaxJobs), impl.MaxJobs * impl.MaxTime},
	}
	for _, c := range cases {
		wantPlan(t, "plan of a list", planOf(impl.ListPlan(c.times, c.order, c.machines)), c.plan, c.last)
	}
}

func TestLongestFirst(t *testing.T) {
	wantPlan(t, "the longest first", planOf(impl.LongestFirst([]int64{3, 3, 2, 2, 2}, 2)), []int64{0, 1, 0, 1, 0}, 7)
	wantPlan(t, "the longest at last", planOf(impl.LongestFirst([]int64{1, 2, 3, 4}, 2)), []int64{0, 1, 1, 0}, 5)
	wantPlan(t, "equal jobs", planOf(impl.LongestFirst([]int64{4, 4, 4}, 2)), []int64{0, 1, 0}, 8)
	wantPlan(t, "more machines than jobs", planOf(impl.LongestFirst([]int64{2, 9, 4}, 8)), []int64{2, 0, 1}, 9)
	r := drawer(13)
	for range 200 {
		times, machines := drawList(r, 1+r.IntN(impl.MaxJobs), 1, 9), 1+r.Int64N(impl.MaxMachines)
		order := upwards(len(times))
		// By insertion, a job goes ahead of all that are less, and behind all that are equal.
		for i := range order {
			for k := i; k > 0 && times[order[k]] > times[order[k-1]]; k-- {
				order[k], order[k-1] = order[k-1], order[k]
			}
		}
		wanted := planOf(impl.ListPlan(times, order, machines))
		wantPlan(t, "as the list", planOf(impl.LongestFirst(times, machines)), wanted.list, wanted.number)
	}
}

func TestLastBound(t *testing.T) {
	cases := []struct {
		times           []int64
		machines, bound int64
	}{
		{[]int64{3, 3, 2, 2, 2}, 2, 6}, {[]int64{3, 3, 2, 2, 3}, 2, 7}, {[]int64{9, 1, 1}, 2, 9}, {[]int64{9, 1, 1}, 8, 9},
		{[]int64{1, 1}, 2, 1}, {[]int64{1, 1, 1}, 2, 2}, {[]int64{4}, 1, 4}, {[]int64{4, 5}, 1, 9}, {repeated[int64](impl.MaxTime, impl.MaxJobs), 1, 240000},
	}
	for _, c := range cases {
		bound, ok := impl.LastBound(c.times, c.machines)
		want(t, "bound", ok && bound == c.bound, true)
	}
}

func TestRatioOf(t *testing.T) {
	cases := []struct {
		times                  []int64
		machines, upper, lower int64
	}{
		{[]int64{3, 3, 2, 2, 2}, 2, 7, 6}, {[]int64{4, 4, 4}, 2, 4, 3}, {[]int64{5, 5}, 2, 1, 1}, {[]int64{6, 6, 4, 4, 4}, 2, 7, 6}, {[]int64{10000}, 8, 1, 1},
	}
	for _, c := range cases {
		upper, lower, ok := impl.RatioOf(c.times, c.machines)
		want(t, "ratio", ok && upper == c.upper && lower == c.lower, true)
	}
}

func TestLeastLast(t *testing.T) {
	wantPlan(t, "at best", planOf(impl.LeastLast([]int64{3, 3, 2, 2, 2}, 2)), []int64{0, 0, 1, 1, 1}, 6)
	wantPlan(t, "machines without jobs", planOf(impl.LeastLast([]int64{5, 3, 2}, 8)), []int64{0, 1, 1}, 5)
	wantPlan(t, "equal jobs", planOf(impl.LeastLast([]int64{2, 2, 2, 2}, 3)), []int64{0, 0, 1, 1}, 4)
	wantPlan(t, "one machine", planOf(impl.LeastLast(repeated[int64](impl.MaxTime, impl.MaxJobs), 1)), repeated[int64](0, impl.MaxJobs), 240000)
	r := drawer(14)
	for range 120 {
		machines := 1 + r.IntN(4)
		times := drawList(r, 1+r.IntN(6), 1, 6)
		plan, last := leastByHand(asUnlike(times, machines), machines)
		wantPlan(t, "least last end", planOf(impl.LeastLast(times, int64(machines))), plan, last)
	}
}

// TestWaysAreLimited checks the limit of the searches: machines to the power of jobs is at most 65536.
func TestWaysAreLimited(t *testing.T) {
	for machines, most := range []int{0, 24, 16, 10, 8, 6, 6, 5, 5} {
		if machines == 0 {
			continue
		}
		for jobs := most - 1; jobs <= impl.MaxJobs; jobs++ {
			times := repeated[int64](2, jobs)
			alike, unlike := planOf(impl.LeastLast(times, int64(machines))), planOf(impl.UnlikeLeast(asUnlike(times, machines), int64(machines)))
			if jobs > most {
				wantNoPlan(t, "too many ways", alike)
				wantNoPlan(t, "too many ways of unlike ones", unlike)
				continue
			}
			last := int64((jobs + machines - 1) / machines * 2)
			want(t, "succeeds at the limit", alike.ok && unlike.ok, true)
			want(t, "last end of equal jobs", alike.number, last)
			want(t, "last end of equal jobs on unlike machines", unlike.number, last)
		}
	}
}

// TestExactPlansAreNoWorse checks that exact plans are no better than their bounds, and no worse than those by rules.
func TestExactPlansAreNoWorse(t *testing.T) {
	r := drawer(15)
	for range 200 {
		machines := 1 + r.Int64N(4)
		times := drawList(r, 1+r.IntN(8), 1, 50)
		bound, _ := impl.LastBound(times, machines)
		best, least, ok := impl.LeastLast(times, machines)
		want(t, "succeeds", ok, true)
		want(t, "last end of the best plan", lastOf(asUnlike(times, int(machines)), int(machines), best), least)
		_, longest, _ := impl.LongestFirst(times, machines)
		want(t, "no better than the bound", bound <= least, true)
		want(t, "no worse than the longest first", least <= longest, true)
		// The longest first is at most (4/3 - 1/(3 machines)) times the best one.
		want(t, "the longest first is near", 3*machines*longest <= (4*machines-1)*least, true)
		_, list, _ := impl.ListPlan(times, drawOrder(r, len(times)), machines)
		want(t, "no worse than a list", least <= list, true)
		upper, lower, _ := impl.RatioOf(times, machines)
		want(t, "ratio", upper*bound == lower*longest && upper >= lower, true)
		unlike := drawList(r, len(times)*int(machines), 1, 50)
		_, least, _ = impl.UnlikeLeast(unlike, machines)
		_, list, _ = impl.UnlikeList(unlike, machines)
		want(t, "no worse than a list of unlike ones", least <= list, true)
	}
}

func TestUnlikeList(t *testing.T) {
	cases := []struct {
		times    []int64
		machines int64
		plan     []int64
		last     int64
	}{
		{[]int64{3, 1, 1, 3}, 2, []int64{1, 0}, 1},
		{[]int64{2, 2, 2, 2, 2, 2}, 2, []int64{0, 1, 0}, 4},
		// A job goes where it ends first, not where the machine is free first.
		{[]int64{1, 9, 1, 9, 1, 9}, 2, []int64{0, 0, 0}, 3},
		{[]int64{4, 9, 4, 8}, 2, []int64{0, 0}, 8},
		{[]int64{4, 9, 5, 8}, 2, []int64{0, 1}, 8},
		// The order is that of indices.
		{[]int64{1, 2, 3, 9, 9, 5}, 3, []int64{0, 2}, 5},
		{[]int64{7, 7, 7, 7, 7, 7, 7, 5}, 8, []int64{7}, 5},
		{[]int64{3, 4, 5}, 1, []int64{0, 0, 0}, 12},
	}
	for _, c := range cases {
		wantPlan(t, "list of unlike machines", planOf(impl.UnlikeList(c.times, c.machines)), c.plan, c.last)
	}
	r := drawer(16)
	for range 100 {
		times, machines := drawList(r, 1+r.IntN(impl.MaxJobs), 1, 9), 1+r.IntN(impl.MaxMachines)
		wanted := planOf(impl.ListPlan(times, upwards(len(times)), int64(machines)))
		wantPlan(t, "alike machines", planOf(impl.UnlikeList(asUnlike(times, machines), int64(machines))), wanted.list, wanted.number)
	}
}

func TestUnlikeLeast(t *testing.T) {
	wantPlan(t, "crosswise", planOf(impl.UnlikeLeast([]int64{3, 1, 1, 3}, 2)), []int64{1, 0}, 1)
	wantPlan(t, "equal jobs", planOf(impl.UnlikeLeast(repeated[int64](5, 6), 2)), []int64{0, 0, 1}, 10)
	wantPlan(t, "machines without jobs", planOf(impl.UnlikeLeast([]int64{9, 9, 1, 9, 9, 1}, 3)), []int64{2, 2}, 2)
	r := drawer(17)
	for range 120 {
		machines := 1 + r.IntN(4)
		times := drawList(r, machines*(1+r.IntN(6)), 1, 6)
		plan, last := leastByHand(times, machines)
		wantPlan(t, "least last end", planOf(impl.UnlikeLeast(times, int64(machines))), plan, last)
	}
}

// TestMachinesFail calls the functions of machines with arguments that are not valid.
func TestMachinesFail(t *testing.T) {
	fails := func(what string, times []int64, machines int64) {
		t.Helper()
		wantNoPlan(t, what, planOf(impl.ListPlan(times, upwards(len(times)), machines)))
		wantNoPlan(t, what, planOf(impl.LongestFirst(times, machines)))
		wantNoPlan(t, what, planOf(impl.LeastLast(times, machines)))
		wantNoPlan(t, what, planOf(impl.UnlikeList(times, machines)))
		wantNoPlan(t, what, planOf(impl.UnlikeLeast(times, machines)))
		bound, ok := impl.LastBound(times, machines)
		wantFailure(t, what, bound, ok)
		upper, lower, ok := impl.RatioOf(times, machines)
		wantFailure(t, what, upper, ok)
		wantFailure(t, what, lower, ok)
		shared, ok := impl.LastsShared([][]int64{{1}, times}, machines, 2)
		wantListFailure(t, what, shared, ok)
	}
	for _, machines := range []int64{0, -1, 9, math.MinInt64, math.MaxInt64} {
		fails("wrong machines", []int64{1, 1, 1, 1, 1, 1, 1, 1, 1}, machines)
	}
	for _, time := range []int64{0, -1, impl.MaxTime + 1, math.MinInt64, math.MaxInt64} {
		fails("a wrong time", []int64{time}, 1)
		fails("a wrong time behind another one", []int64{1, time}, 2)
	}
	fails("no times", nil, 1)
	fails("no times", []int64{}, 8)
	fails("too many times", repeated[int64](1, impl.MaxJobs+1), 1)
	for _, order := range badOrders(3) {
		wantNoPlan(t, "a wrong order", planOf(impl.ListPlan([]int64{1, 2, 3}, order, 2)))
	}
	for _, times := range [][]int64{{1, 2, 3}, {1}, repeated[int64](1, 2*impl.MaxJobs+1), repeated[int64](1, 2*impl.MaxJobs+2)} {
		wantNoPlan(t, "a wrong number of unlike times", planOf(impl.UnlikeList(times, 2)))
		wantNoPlan(t, "a wrong number of unlike times", planOf(impl.UnlikeLeast(times, 2)))
	}
	most := planOf(impl.UnlikeList(repeated[int64](1, impl.MaxMachines*impl.MaxJobs), impl.MaxMachines))
	want(t, "the most unlike times", most.ok && most.number == 3, true)
}

// TestLastsShared checks that any number of workers makes the same.
func TestLastsShared(t *testing.T) {
	r := drawer(18)
	for count := 1; count <= 16; count++ {
		lists := make([][]int64, count)
		for machines := int64(1); machines <= impl.MaxMachines; machines++ {
			wanted := make([]int64, count)
			for i := range lists {
				lists[i] = drawList(r, 1+r.IntN(impl.MaxJobs), 1, impl.MaxTime)
				_, wanted[i], _ = impl.LongestFirst(lists[i], machines)
			}
			for workers := int64(1); workers <= impl.MaxWorkers; workers++ {
				lasts, ok := impl.LastsShared(lists, machines, workers)
				want(t, "succeeds", ok, true)
				wantList(t, "last ends", lasts, wanted)
			}
		}
	}
	equal := repeated([]int64{3, 3, 2, 2, 2}, 16)
	lasts, ok := impl.LastsShared(equal, 2, impl.MaxWorkers)
	want(t, "succeeds for equal lists", ok, true)
	wantList(t, "last ends of equal lists", lasts, repeated[int64](7, 16))
}

func TestLastsSharedFails(t *testing.T) {
	one := []int64{1}
	for _, lists := range [][][]int64{nil, {}, repeated(one, 17), {nil}, {one, {}}, {{0}, one}, {one, one, {impl.MaxTime + 1}}, {repeated[int64](1, impl.MaxJobs+1)}} {
		for workers := int64(1); workers <= impl.MaxWorkers; workers++ {
			lasts, ok := impl.LastsShared(lists, 1, workers)
			wantListFailure(t, "wrong lists", lasts, ok)
		}
	}
	for _, workers := range []int64{0, -1, impl.MaxWorkers + 1, math.MinInt64, math.MaxInt64} {
		lasts, ok := impl.LastsShared([][]int64{one}, 1, workers)
		wantListFailure(t, "wrong workers", lasts, ok)
	}
	for _, machines := range []int64{0, -1, impl.MaxMachines + 1, math.MinInt64, math.MaxInt64} {
		lasts, ok := impl.LastsShared([][]int64{one}, machines, 1)
		wantListFailure(t, "wrong machines", lasts, ok)
	}
}
