package tests

import (
	"math"
	"slices"
	"testing"

	"loop.example/g01389/impl"
)

func TestOpenBound(t *testing.T) {
	cases := []struct {
		times           []int64
		machines, bound int64
	}{
		{[]int64{1, 4, 3, 2}, 2, 6},
		// It is told by a job, or by a machine.
		{[]int64{5, 5, 1, 1}, 2, 10}, {[]int64{5, 1, 5, 1}, 2, 10}, {[]int64{1, 5, 1, 5}, 2, 10}, {[]int64{1, 1, 5, 5}, 2, 10},
		{[]int64{2, 3, 4}, 1, 9}, {[]int64{2, 3, 4}, 3, 9},
		{repeated[int64](impl.MaxTime, impl.MaxJobs*impl.MaxMachines), impl.MaxMachines, impl.MaxJobs * impl.MaxTime},
	}
	for _, c := range cases {
		wantTold(t, "bound", told(impl.OpenBound(c.times, c.machines)), c.bound)
	}
	r := drawer(121)
	for range 200 {
		jobs, machines := 1+r.IntN(impl.MaxJobs), 1+r.IntN(impl.MaxMachines)
		times := drawList(r, jobs*machines, 1, 9)
		wantTold(t, "bound", told(impl.OpenBound(times, int64(machines))), loadsByHand(straight(jobs, machines), times, machines))
	}
}

// openByHand gives, again and again, the time at which a step can begin, its time, its job and its machine a row, and takes the least row.
func openByHand(times []int64, machines int) ([]int64, int64) {
	starts := repeated[int64](-1, len(times))
	for range times {
		var rows [][]int64
		for step, start := range starts {
			if start >= 0 {
				continue
			}
			var free int64
			for other, begun := range starts {
				if begun >= 0 && (other/machines == step/machines || other%machines == step%machines) {
					free = max(free, begun+times[other])
				}
			}
			rows = append(rows, []int64{free, -times[step], int64(step / machines), int64(step % machines)})
		}
		first := slices.MinFunc(rows, slices.Compare[[]int64])
		starts[int(first[2])*machines+int(first[3])] = first[0]
	}
	return starts, endByStarts(times, starts)
}

func TestOpenPlan(t *testing.T) {
	wantPlan(t, "two jobs", planOf(impl.OpenPlan([]int64{1, 4, 3, 2}, 2)), []int64{4, 0, 0, 4}, 6)
	wantPlan(t, "one machine", planOf(impl.OpenPlan([]int64{2, 5, 3, 5}, 1)), []int64{13, 0, 10, 5}, 15)
	wantPlan(t, "one job", planOf(impl.OpenPlan([]int64{2, 5, 3, 5}, 4)), []int64{13, 0, 10, 5}, 15)
	// Of equal times, that of the first job is taken, and on the first machine.
	wantPlan(t, "equal times", planOf(impl.OpenPlan(repeated[int64](2, 9), 3)), []int64{0, 2, 4, 2, 0, 6, 4, 6, 0}, 8)
	wantPlan(t, "equal times of more jobs", planOf(impl.OpenPlan(repeated[int64](1, 6), 2)), []int64{0, 1, 1, 0, 2, 3}, 4)
	// What can begin first begins first, even if it takes less time.
	wantPlan(t, "the least time", planOf(impl.OpenPlan([]int64{9, 1, 8, 2}, 2)), []int64{0, 9, 9, 0}, 17)
	r := drawer(122)
	for range 150 {
		machines := 1 + r.IntN(impl.MaxMachines)
		times := drawList(r, machines*(1+r.IntN(8)), 1, 1+r.Int64N(9))
		starts, last := openByHand(times, machines)
		wantPlan(t, "open plan", planOf(impl.OpenPlan(times, int64(machines))), starts, last)
	}
	times := drawList(r, impl.MaxJobs*impl.MaxMachines, 1, impl.MaxTime)
	starts, last := openByHand(times, impl.MaxMachines)
	wantPlan(t, "the most steps", planOf(impl.OpenPlan(times, impl.MaxMachines)), starts, last)
}

// TestOpenPlansKeepBounds checks that open plans are plans, and no better than their bounds.
func TestOpenPlansKeepBounds(t *testing.T) {
	r := drawer(123)
	for range 150 {
		jobs, machines := 1+r.IntN(impl.MaxJobs), 1+r.IntN(impl.MaxMachines)
		times := drawList(r, jobs*machines, 1, 30)
		starts, last, ok := impl.OpenPlan(times, int64(machines))
		want(t, "succeeds", ok && len(starts) == len(times), true)
		want(t, "is a plan", isPlanByHand(straight(jobs, machines), times, machines, starts), true)
		wantTold(t, "is a plan", told(impl.IsOpenPlan(times, int64(machines), starts)), true)
		want(t, "last end", endByStarts(times, starts), last)
		bound, _ := impl.OpenBound(times, int64(machines))
		// Until the last step begins, its job or its machine always has something to do.
		want(t, "no better than the bound, and not far from it", bound <= last && last < 2*bound, true)
	}
}

func TestIsOpenPlan(t *testing.T) {
	times := []int64{1, 4, 3, 2}
	cases := []struct {
		starts []int64
		isPlan bool
	}{
		{[]int64{4, 0, 0, 4}, true}, {[]int64{3, 4, 0, 8}, true}, {[]int64{0, 1, 5, 8}, true},
		// A job, or a machine, has two things to do at once, if only for one unit of time.
		{[]int64{3, 0, 0, 4}, false}, {[]int64{4, 0, 0, 3}, false}, {[]int64{0, 0, 9, 9}, false}, {[]int64{2, 4, 0, 8}, false}, {[]int64{3, 4, 0, 7}, false},
		// A short step is within a long one, at its beginning, and at its end.
		{[]int64{2, 0, 10, 20}, false}, {[]int64{0, 0, 10, 20}, false}, {[]int64{3, 0, 10, 20}, false},
		{repeated[int64](0, 4), false}, {[]int64{1000000, 999996, 999996, 1000000}, true}, {[]int64{1000000, 999997, 0, 100}, false},
	}
	for _, c := range cases {
		wantTold(t, "plan of an open shop", told(impl.IsOpenPlan(times, 2, c.starts)), c.isPlan)
	}
	r := drawer(124)
	plans := 0
	for range 3000 {
		jobs, machines := 1+r.IntN(3), 1+r.IntN(3)
		times, starts := drawList(r, jobs*machines, 1, 3), drawList(r, jobs*machines, 0, 1+int64(5*jobs*machines))
		isPlan := isPlanByHand(straight(jobs, machines), times, machines, starts)
		wantTold(t, "plan of an open shop", told(impl.IsOpenPlan(times, int64(machines), starts)), isPlan)
		if isPlan {
			plans++
		}
	}
	want(t, "both happen", plans > 300 && plans < 2700, true)
}

func TestOpenShopsFail(t *testing.T) {
	for _, s := range wrongShops() {
		wantNotTold(t, "a wrong shop", told(impl.OpenBound(s.times, s.machines)))
		wantNoPlan(t, "a wrong shop", planOf(impl.OpenPlan(s.times, s.machines)))
		starts := make([]int64, len(s.times))
		for step := range starts {
			starts[step] = int64(step) * impl.MaxTime
		}
		wantNotTold(t, "a wrong shop", told(impl.IsOpenPlan(s.times, s.machines, starts)))
	}
	for _, starts := range [][]int64{nil, {}, {4, 0, 0}, {4, 0, 0, 4, 9}, {-1, 0, 0, 4}, {4, 0, 0, 1000001}, {math.MinInt64, 0, 0, 4}, {4, 0, 0, math.MaxInt64}} {
		wantNotTold(t, "wrong starts", told(impl.IsOpenPlan([]int64{1, 4, 3, 2}, 2, starts)))
	}
}
