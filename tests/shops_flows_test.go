package tests

import (
	"math"
	"slices"
	"testing"

	"loop.example/g01389/impl"
)

// flowByHand returns when jobs of an order, or of a part of one, end: a job ends as late as the longest way
// from the first job on the first machine to it, each step of which goes to the next job or to the next machine.
func flowByHand(times []int64, machines int, order []int64) []int64 {
	ends := make([]int64, len(times))
	var way func(place, machine int) int64
	known := map[[2]int]int64{}
	way = func(place, machine int) int64 {
		if place < 0 || machine < 0 {
			return 0
		}
		if length, ok := known[[2]int{place, machine}]; ok {
			return length
		}
		before := max(way(place-1, machine), way(place, machine-1))
		known[[2]int{place, machine}] = before + rowOf(times, machines, order[place])[machine]
		return known[[2]int{place, machine}]
	}
	for place, job := range order {
		for machine := range machines {
			rowOf(ends, machines, job)[machine] = way(place, machine)
		}
	}
	return ends
}

// flowLastByHand returns when the last one of them ends.
func flowLastByHand(times []int64, machines int, order []int64) int64 {
	return slices.Max(flowByHand(times, machines, order))
}

func TestFlowEnds(t *testing.T) {
	cases := []struct {
		times    []int64
		machines int64
		order    []int64
		ends     []int64
	}{
		{[]int64{1, 4, 3, 2}, 2, []int64{0, 1}, []int64{1, 5, 4, 7}},
		{[]int64{1, 4, 3, 2}, 2, []int64{1, 0}, []int64{4, 9, 3, 5}},
		{[]int64{2, 3, 4}, 1, []int64{2, 0, 1}, []int64{6, 9, 4}},
		{[]int64{2, 3, 4}, 3, []int64{0}, []int64{2, 5, 9}},
		{[]int64{1, 1, 1, 5, 5, 5, 1, 1, 1}, 3, []int64{0, 1, 2}, []int64{1, 2, 3, 6, 11, 16, 7, 12, 17}},
		{[]int64{1, 5, 1, 1, 5, 1}, 3, []int64{1, 0}, []int64{2, 11, 12, 1, 6, 7}},
	}
	for _, c := range cases {
		wantTold(t, "ends", told(impl.FlowEnds(c.times, c.machines, c.order)), c.ends)
		wantTold(t, "last end", told(impl.FlowLast(c.times, c.machines, c.order)), slices.Max(c.ends))
	}
	r := drawer(101)
	for range 300 {
		jobs, machines := 1+r.IntN(impl.MaxJobs), 1+r.IntN(impl.MaxMachines)
		times, order := drawList(r, jobs*machines, 1, 9), drawOrder(r, jobs)
		wanted := flowByHand(times, machines, order)
		wantTold(t, "ends", told(impl.FlowEnds(times, int64(machines), order)), wanted)
		wantTold(t, "last end", told(impl.FlowLast(times, int64(machines), order)), slices.Max(wanted))
	}
	most := repeated[int64](impl.MaxTime, impl.MaxJobs*impl.MaxMachines)
	wantTold(t, "the greatest flow", told(impl.FlowLast(most, impl.MaxMachines, upwards(impl.MaxJobs))), impl.MaxTime*(impl.MaxJobs+impl.MaxMachines-1))
}

func TestTwoOrder(t *testing.T) {
	cases := []struct{ times, order []int64 }{
		{[]int64{3, 2, 1, 4}, []int64{1, 0}},
		{[]int64{5, 9}, []int64{0}},
		// Equal times are at most one another, so that such jobs are with the first ones.
		{[]int64{4, 4, 2, 1, 3, 3}, []int64{2, 0, 1}},
		// The first ones of equal ones stay first, in both parts.
		{[]int64{2, 9, 2, 3, 2, 5}, []int64{0, 1, 2}},
		{[]int64{9, 2, 3, 2, 5, 2}, []int64{0, 1, 2}},
		{[]int64{9, 2, 1, 7, 3, 2, 1, 2, 5, 3, 4, 4}, []int64{1, 3, 5, 4, 0, 2}},
		{repeated[int64](7, 2*impl.MaxJobs), upwards(impl.MaxJobs)},
	}
	for _, c := range cases {
		wantTold(t, "order for two machines", told(impl.TwoOrder(c.times)), c.order)
	}
	r := drawer(108)
	for range 200 {
		times := drawList(r, 2*(1+r.IntN(impl.MaxJobs)), 1, 3)
		wantTold(t, "order of many equal jobs", told(impl.TwoOrder(times)), twoByHand(times))
		// All jobs take longer on the former machine, and then on the latter one.
		for job := range times[:len(times)/2] {
			times[2*job], times[2*job+1] = 9, 1+times[2*job+1]%2
		}
		wantTold(t, "order of falling jobs", told(impl.TwoOrder(times)), twoByHand(times))
		slices.Reverse(times)
		wantTold(t, "order of rising jobs", told(impl.TwoOrder(times)), twoByHand(times))
	}
}

// twoByHand takes the first job with the least former time, again and again, then that with the greatest latter one.
func twoByHand(times []int64) []int64 {
	var order []int64
	for time := int64(1); time <= slices.Max(times); time++ {
		for job := range int64(len(times) / 2) {
			if row := rowOf(times, 2, job); row[0] <= row[1] && row[0] == time {
				order = append(order, job)
			}
		}
	}
	for time := slices.Max(times); time >= 1; time-- {
		for job := range int64(len(times) / 2) {
			if row := rowOf(times, 2, job); row[0] > row[1] && row[1] == time {
				order = append(order, job)
			}
		}
	}
	return order
}

// TestTwoOrderIsBest checks that no order for two machines is better.
func TestTwoOrderIsBest(t *testing.T) {
	r := drawer(102)
	for range 150 {
		times := drawList(r, 2*(1+r.IntN(6)), 1, 1+r.Int64N(12))
		order, ok := impl.TwoOrder(times)
		want(t, "succeeds", ok && impl.IsOrder(order, int64(len(times)/2)), true)
		_, least := bestByHand(len(order), func(order []int64) int64 { return flowLastByHand(times, 2, order) })
		want(t, "last end", flowLastByHand(times, 2, order), least)
		_, best, _ := impl.BestFlow(times, 2)
		want(t, "last end of the best order", best, least)
	}
}

// insertByHand puts jobs to each place of an order, the longest ones first.
func insertByHand(times []int64, machines int) ([]int64, int64) {
	jobs := upwards(len(times) / machines)
	var order []int64
	var last int64
	for len(jobs) > 0 {
		next := 0
		for i := range jobs {
			if sumByHand(rowOf(times, machines, jobs[i])) > sumByHand(rowOf(times, machines, jobs[next])) {
				next = i
			}
		}
		best, least := []int64(nil), int64(math.MaxInt64)
		for place := range len(order) + 1 {
			tried := append(append(slices.Clone(order[:place]), jobs[next]), order[place:]...)
			if last := flowLastByHand(times, machines, tried); last < least {
				best, least = tried, last
			}
		}
		order, last = best, least
		jobs = append(jobs[:next:next], jobs[next+1:]...)
	}
	return order, last
}

func TestInsertOrder(t *testing.T) {
	wantPlan(t, "two jobs", planOf(impl.InsertOrder([]int64{1, 4, 3, 2}, 2)), []int64{0, 1}, 7)
	wantPlan(t, "one job", planOf(impl.InsertOrder([]int64{1, 4, 3, 2}, 4)), []int64{0}, 10)
	// Each job takes the first one of equal places, so that the last one is put to the front.
	wantPlan(t, "equal jobs", planOf(impl.InsertOrder(repeated[int64](2, 8), 2)), []int64{3, 2, 1, 0}, 10)
	wantPlan(t, "one machine", planOf(impl.InsertOrder([]int64{1, 3, 2, 3}, 1)), []int64{0, 2, 3, 1}, 9)
	r := drawer(103)
	for range 150 {
		machines := 1 + r.IntN(impl.MaxMachines)
		times := drawList(r, machines*(1+r.IntN(9)), 1, 1+r.Int64N(8))
		order, last := insertByHand(times, machines)
		wantPlan(t, "order by insertions", planOf(impl.InsertOrder(times, int64(machines))), order, last)
	}
	for _, most := range []int64{2, 3, impl.MaxTime} {
		for _, machines := range []int64{1, 2, impl.MaxMachines} {
			times := drawList(r, impl.MaxJobs*int(machines), 1, most)
			order, last := insertByHand(times, int(machines))
			wantPlan(t, "the most jobs", planOf(impl.InsertOrder(times, machines)), order, last)
		}
	}
}

// flowBoundByHand tells the bound of each machine for each two jobs that are first and last.
func flowBoundByHand(times []int64, machines int) int64 {
	var bound int64
	for machine := range machines {
		var sum int64
		least := int64(math.MaxInt64)
		for first := range int64(len(times) / machines) {
			sum += rowOf(times, machines, first)[machine]
			for last := range int64(len(times) / machines) {
				least = min(least, sumByHand(rowOf(times, machines, first)[:machine])+sumByHand(rowOf(times, machines, last)[machine+1:]))
			}
		}
		bound = max(bound, sum+least)
	}
	return bound
}

func TestFlowBound(t *testing.T) {
	cases := []struct {
		times           []int64
		machines, bound int64
	}{
		{[]int64{1, 4, 3, 2}, 2, 7}, {[]int64{2, 3, 4}, 1, 9}, {[]int64{2, 3, 4}, 3, 9},
		// Both the least sum before and that behind can be those of one job.
		{[]int64{1, 20, 1, 9, 20, 9}, 3, 42}, {[]int64{1, 5, 9, 9, 5, 1}, 3, 16}, {[]int64{1, 1, 9, 2}, 2, 11},
		{repeated[int64](impl.MaxTime, impl.MaxJobs*impl.MaxMachines), impl.MaxMachines, impl.MaxTime * (impl.MaxJobs + impl.MaxMachines - 1)},
	}
	for _, c := range cases {
		wantTold(t, "bound", told(impl.FlowBound(c.times, c.machines)), c.bound)
	}
	r := drawer(104)
	for range 300 {
		machines := 1 + r.IntN(impl.MaxMachines)
		times := drawList(r, machines*(1+r.IntN(impl.MaxJobs)), 1, 9)
		wantTold(t, "bound", told(impl.FlowBound(times, int64(machines))), flowBoundByHand(times, machines))
	}
}

func TestBestFlow(t *testing.T) {
	wantPlan(t, "two jobs", planOf(impl.BestFlow([]int64{1, 4, 3, 2}, 2)), []int64{0, 1}, 7)
	wantPlan(t, "the other order", planOf(impl.BestFlow([]int64{3, 2, 1, 4}, 2)), []int64{1, 0}, 7)
	// Of several best orders, the first one is returned.
	wantPlan(t, "one machine", planOf(impl.BestFlow([]int64{3, 1, 2, 1, 1, 1, 1}, 1)), upwards(7), 10)
	wantPlan(t, "equal jobs", planOf(impl.BestFlow(repeated[int64](impl.MaxTime, 7*8), 8)), upwards(7), 14*impl.MaxTime)
	r := drawer(105)
	for range 100 {
		machines := 1 + r.IntN(impl.MaxMachines)
		times := drawList(r, machines*(1+r.IntN(5)), 1, 1+r.Int64N(9))
		order, last := bestByHand(len(times)/machines, func(order []int64) int64 { return flowLastByHand(times, machines, order) })
		wantPlan(t, "best order", planOf(impl.BestFlow(times, int64(machines))), order, last)
	}
	for machines := 1; machines <= 3; machines++ {
		times := drawList(r, 7*machines, 1, 9)
		order, last := bestByHand(7, func(order []int64) int64 { return flowLastByHand(times, machines, order) })
		wantPlan(t, "best order of seven", planOf(impl.BestFlow(times, int64(machines))), order, last)
		wantNoPlan(t, "eight jobs", planOf(impl.BestFlow(repeated[int64](1, 8*machines), int64(machines))))
	}
}

// TestBestFlowIsNoWorse checks that bounds, the best order, and orders by rules stand one behind the other.
func TestBestFlowIsNoWorse(t *testing.T) {
	r := drawer(106)
	for range 150 {
		jobs, machines := 1+r.IntN(7), 1+r.Int64N(impl.MaxMachines)
		times := drawList(r, jobs*int(machines), 1, 40)
		bound, _ := impl.FlowBound(times, machines)
		best, least, ok := impl.BestFlow(times, machines)
		want(t, "succeeds", ok, true)
		wantTold(t, "last end of the best order", told(impl.FlowLast(times, machines, best)), least)
		inserted, rule, _ := impl.InsertOrder(times, machines)
		wantTold(t, "last end by insertions", told(impl.FlowLast(times, machines, inserted)), rule)
		other, _ := impl.FlowLast(times, machines, drawOrder(r, jobs))
		blocked, _ := impl.BlockLast(times, machines, best)
		rushed, _ := impl.NoWaitLast(times, machines, best)
		want(t, "no better than the bound", bound <= least, true)
		want(t, "no worse than by insertions", least <= rule, true)
		want(t, "no worse than another order", least <= other, true)
		// What may not wait keeps room, too, and what needs room can't be better than what needs none.
		want(t, "no worse than without room, and without waits", least <= blocked && blocked <= rushed, true)
	}
}

// TestFlowsFail calls the functions of flows with arguments that are not valid.
func TestFlowsFail(t *testing.T) {
	for _, s := range wrongShops() {
		wantNotTold(t, "a wrong shop", told(impl.FlowEnds(s.times, s.machines, s.orderFor())))
		wantNotTold(t, "a wrong shop", told(impl.FlowLast(s.times, s.machines, s.orderFor())))
		wantNoPlan(t, "a wrong shop", planOf(impl.InsertOrder(s.times, s.machines)))
		wantNotTold(t, "a wrong shop", told(impl.FlowBound(s.times, s.machines)))
		wantNoPlan(t, "a wrong shop", planOf(impl.BestFlow(s.times, s.machines)))
		wantNotTold(t, "a wrong shop", told(impl.FlowsShared([][]int64{s.times}, s.machines, 1)))
		if s.machines == 2 {
			wantNotTold(t, "a wrong shop", told(impl.TwoOrder(s.times)))
		}
	}
	for _, order := range append(badOrders(3), []int64{0, 1, math.MinInt64}, []int64{0, 1, math.MaxInt64}) {
		times := []int64{1, 2, 3, 4, 5, 6}
		wantNotTold(t, "a wrong order", told(impl.FlowEnds(times, 2, order)))
		wantNotTold(t, "a wrong order", told(impl.FlowLast(times, 2, order)))
		wantNotTold(t, "a wrong order", told(impl.NoWaitLast(times, 2, order)))
		wantNotTold(t, "a wrong order", told(impl.BlockLast(times, 2, order)))
	}
}

// TestFlowsShared checks that any number of workers makes the same.
func TestFlowsShared(t *testing.T) {
	r := drawer(107)
	for count := 1; count <= 16; count++ {
		machines := 1 + count%impl.MaxMachines
		lists, wanted := make([][]int64, count), make([]int64, count)
		for i := range lists {
			lists[i] = drawList(r, machines*(1+r.IntN(12)), 1, impl.MaxTime)
			_, wanted[i], _ = impl.InsertOrder(lists[i], int64(machines))
		}
		for workers := int64(1); workers <= impl.MaxWorkers; workers++ {
			wantTold(t, "last ends", told(impl.FlowsShared(lists, int64(machines), workers)), wanted)
		}
	}
	equal := repeated([]int64{1, 4, 3, 2}, 16)
	wantTold(t, "last ends of equal lists", told(impl.FlowsShared(equal, 2, impl.MaxWorkers)), repeated[int64](7, 16))
}

func TestFlowsSharedFails(t *testing.T) {
	one := []int64{1, 2}
	for _, lists := range [][][]int64{nil, {}, repeated(one, 17), {nil}, {one, {}}, {{0, 1}, one}, {one, one, {1, impl.MaxTime + 1}}, {one, {1}}, {repeated[int64](1, 2*impl.MaxJobs+2)}} {
		for workers := int64(1); workers <= impl.MaxWorkers; workers++ {
			wantNotTold(t, "wrong lists", told(impl.FlowsShared(lists, 2, workers)))
		}
	}
	for _, workers := range []int64{0, -1, impl.MaxWorkers + 1, math.MinInt64, math.MaxInt64} {
		wantNotTold(t, "wrong workers", told(impl.FlowsShared([][]int64{one}, 2, workers)))
	}
	for _, machines := range []int64{0, -1, 3, impl.MaxMachines + 1, math.MinInt64, math.MaxInt64} {
		wantNotTold(t, "wrong machines", told(impl.FlowsShared([][]int64{one}, machines, 1)))
	}
}
