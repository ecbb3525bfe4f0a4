package tests

import (
	"slices"
	"testing"

	"loop.example/g01389/impl"
)

// gapByHand tries by how much later than a job another one can begin, until it comes to no machine before the first one has ended there.
func gapByHand(row, other []int64) int64 {
	fits := func(gap int64) bool {
		ends, begins := int64(0), gap
		for machine := range row {
			ends += row[machine]
			if begins < ends {
				return false
			}
			begins += other[machine]
		}
		return true
	}
	var gap int64
	for !fits(gap) {
		gap++
	}
	return gap
}

// rushByHand lets each job of an order begin as soon as it can go through behind all before it, and returns when the last one ends.
func rushByHand(times []int64, machines int, order []int64) int64 {
	begins := make([]int64, len(order))
	for place, job := range order {
		row := rowOf(times, machines, job)
		for before, begin := range begins[:place] {
			begins[place] = max(begins[place], begin+gapByHand(rowOf(times, machines, order[before]), row))
		}
	}
	return begins[len(order)-1] + sumByHand(rowOf(times, machines, order[len(order)-1]))
}

func TestNoWaitGaps(t *testing.T) {
	wantTold(t, "two jobs", told(impl.NoWaitGaps([]int64{1, 4, 3, 2}, 2)), []int64{0, 2, 4, 0})
	// On machines that need no wait, a job can begin as soon as the one before has left the first one.
	wantTold(t, "equal jobs", told(impl.NoWaitGaps(repeated[int64](3, 6), 2)), []int64{0, 3, 3, 3, 0, 3, 3, 3, 0})
	wantTold(t, "slower and slower", told(impl.NoWaitGaps([]int64{1, 1, 1, 2, 2, 2}, 3)), []int64{0, 1, 4, 0})
	wantTold(t, "one machine", told(impl.NoWaitGaps([]int64{5, 2, 9}, 1)), []int64{0, 5, 5, 2, 0, 2, 9, 9, 0})
	wantTold(t, "one job", told(impl.NoWaitGaps([]int64{5, 2, 9}, 3)), []int64{0})
	r := drawer(111)
	for range 300 {
		jobs, machines := 1+r.IntN(8), 1+r.IntN(impl.MaxMachines)
		times := drawList(r, jobs*machines, 1, 1+r.Int64N(9))
		var gaps []int64
		for i := range int64(jobs) {
			for k := range int64(jobs) {
				if i == k {
					gaps = append(gaps, 0)
				} else {
					gaps = append(gaps, gapByHand(rowOf(times, machines, i), rowOf(times, machines, k)))
				}
			}
		}
		wantTold(t, "gaps", told(impl.NoWaitGaps(times, int64(machines))), gaps)
	}
	most := repeated[int64](impl.MaxTime, impl.MaxJobs*impl.MaxMachines)
	gaps, ok := impl.NoWaitGaps(most, impl.MaxMachines)
	want(t, "the most gaps", ok && len(gaps) == impl.MaxJobs*impl.MaxJobs && slices.Max(gaps) == impl.MaxTime, true)
}

func TestNoWaitLast(t *testing.T) {
	wantTold(t, "two jobs", told(impl.NoWaitLast([]int64{1, 4, 3, 2}, 2, []int64{0, 1})), 7)
	wantTold(t, "the other order", told(impl.NoWaitLast([]int64{1, 4, 3, 2}, 2, []int64{1, 0})), 9)
	wantTold(t, "one job", told(impl.NoWaitLast([]int64{1, 4, 3, 2}, 4, []int64{0})), 10)
	wantTold(t, "one machine", told(impl.NoWaitLast([]int64{5, 2, 9}, 1, []int64{2, 0, 1})), 16)
	wantTold(t, "a job that goes fast behind a slow one", told(impl.NoWaitLast([]int64{5, 5, 5, 1, 1, 1}, 3, []int64{0, 1})), 16)
	r := drawer(112)
	for range 300 {
		jobs, machines := 1+r.IntN(10), 1+r.IntN(impl.MaxMachines)
		times, order := drawList(r, jobs*machines, 1, 1+r.Int64N(9)), drawOrder(r, jobs)
		wantTold(t, "last end", told(impl.NoWaitLast(times, int64(machines), order)), rushByHand(times, machines, order))
	}
	most := repeated[int64](impl.MaxTime, impl.MaxJobs*impl.MaxMachines)
	wantTold(t, "the most jobs", told(impl.NoWaitLast(most, impl.MaxMachines, upwards(impl.MaxJobs))), impl.MaxTime*(impl.MaxJobs+impl.MaxMachines-1))
}

// TestWaitsAreNeeded checks that what may not wait ends as in a flow where nothing waits, and that else, it ends no earlier.
func TestWaitsAreNeeded(t *testing.T) {
	r := drawer(113)
	for range 200 {
		jobs, machines := 1+r.IntN(10), 1+r.IntN(impl.MaxMachines)
		// Jobs that take the same time on all machines, in ascending order, never wait for one another.
		speeds := drawList(r, jobs, 1, 9)
		slices.Sort(speeds)
		even := asUnlike(speeds, machines)
		wanted := sumByHand(speeds) + int64(machines-1)*speeds[jobs-1]
		order := upwards(jobs)
		wantTold(t, "no waits", told(impl.NoWaitLast(even, int64(machines), order)), wanted)
		wantTold(t, "no waits, no room", told(impl.BlockLast(even, int64(machines), order)), wanted)
		wantTold(t, "a flow without waits", told(impl.FlowLast(even, int64(machines), order)), wanted)
		times := drawList(r, jobs*machines, 1, 9)
		flow, _ := impl.FlowLast(times, int64(machines), order)
		block, _ := impl.BlockLast(times, int64(machines), order)
		rush, _ := impl.NoWaitLast(times, int64(machines), order)
		want(t, "one behind the other", flow <= block && block <= rush, true)
		if machines <= 2 {
			// With two machines, a job that stays on the first one may as well begin there later.
			want(t, "two machines", block, rush)
		}
	}
}

// blockByHand lets the time go on by one again and again: jobs go on from the last machine to the first one, where there is room.
func blockByHand(times []int64, machines int, order []int64) int64 {
	const none = -1
	at, rest := repeated[int64](none, machines), make([]int64, machines)
	coming, open := slices.Clone(order), len(order)
	enter := func(machine int, job int64) {
		at[machine], rest[machine] = job, rowOf(times, machines, job)[machine]
	}
	for now := int64(0); ; now++ {
		for machine := machines - 1; machine >= 0; machine-- {
			job := at[machine]
			if job == none || rest[machine] > 0 {
				continue
			}
			if machine == machines-1 {
				at[machine], open = none, open-1
			} else if at[machine+1] == none {
				enter(machine+1, job)
				at[machine] = none
			}
		}
		if open == 0 {
			return now
		}
		if at[0] == none && len(coming) > 0 {
			enter(0, coming[0])
			coming = coming[1:]
		}
		for machine := range rest {
			rest[machine] = max(0, rest[machine]-1)
		}
	}
}

func TestBlockLast(t *testing.T) {
	cases := []struct {
		times    []int64
		machines int64
		order    []int64
		last     int64
	}{
		{[]int64{1, 4, 3, 2}, 2, []int64{0, 1}, 7},
		{[]int64{1, 4, 3, 2}, 2, []int64{1, 0}, 9},
		{[]int64{1, 4, 3, 2}, 4, []int64{0}, 10},
		{[]int64{5, 2, 9}, 1, []int64{2, 0, 1}, 16},
		// The second job stays on the first machine until 6, so that the third one begins there no earlier.
		{[]int64{1, 5, 1, 1, 3, 1}, 2, []int64{0, 1, 2}, 10},
		{[]int64{1, 1, 9, 1, 1, 1, 4, 1, 1}, 3, []int64{0, 1, 2}, 13},
		{[]int64{1, 1, 9, 1, 1, 1, 4, 1, 1}, 3, []int64{2, 1, 0}, 16},
	}
	for _, c := range cases {
		wantTold(t, "last end without room", told(impl.BlockLast(c.times, c.machines, c.order)), c.last)
	}
	r := drawer(114)
	differs := 0
	for range 400 {
		jobs, machines := 1+r.IntN(10), 1+r.IntN(impl.MaxMachines)
		times, order := drawList(r, jobs*machines, 1, 1+r.Int64N(9)), drawOrder(r, jobs)
		last := blockByHand(times, machines, order)
		wantTold(t, "last end without room", told(impl.BlockLast(times, int64(machines), order)), last)
		if last != flowLastByHand(times, machines, order) && last != rushByHand(times, machines, order) {
			differs++
		}
	}
	want(t, "it is often another one than that of a flow, and of jobs that may not wait", differs > 50, true)
	most := repeated[int64](impl.MaxTime, impl.MaxJobs*impl.MaxMachines)
	wantTold(t, "the most jobs", told(impl.BlockLast(most, impl.MaxMachines, upwards(impl.MaxJobs))), impl.MaxTime*(impl.MaxJobs+impl.MaxMachines-1))
}

func TestWaitsFail(t *testing.T) {
	for _, s := range wrongShops() {
		wantNotTold(t, "a wrong shop", told(impl.NoWaitGaps(s.times, s.machines)))
		wantNotTold(t, "a wrong shop", told(impl.NoWaitLast(s.times, s.machines, s.orderFor())))
		wantNotTold(t, "a wrong shop", told(impl.BlockLast(s.times, s.machines, s.orderFor())))
	}
}
