package tests

import (
	"math"
	"math/rand/v2"
	"slices"
	"testing"

	"loop.example/g01389/impl"
)

// kindsOfPlans is how many kinds of rules of plans there are.
const kindsOfPlans = 4

// TestLimitsOfProjects checks the limits that chapter 3 names.
func TestLimitsOfProjects(t *testing.T) {
	want(t, "MaxTasks", impl.MaxTasks, 16)
	want(t, "MaxCrew", impl.MaxCrew, 20)
	want(t, "MaxSmall", impl.MaxSmall, 7)
	want(t, "MaxTimes", impl.MaxTimes, 400)
}

// threeTasks are those of the examples: the last one is behind both others.
func threeTasks() []impl.Task {
	return []impl.Task{{Time: 2, Needs: 1}, {Time: 3, Needs: 1}, behind(1, 1, 0, 0, 1, 0)}
}

// behind returns a task with pairs of one of Before and its Lag.
func behind(time, needs int64, pairs ...int64) impl.Task {
	task := impl.Task{Time: time, Needs: needs}
	for pair := range slices.Chunk(pairs, 2) {
		task.Before = append(task.Before, pair[0])
		task.Lags = append(task.Lags, pair[1])
	}
	return task
}

// drawTasks returns n tasks with small numbers, so that there are many equal ones, and some without time; lags are at least lag.
func drawTasks(r *rand.Rand, n int, lag int64) []impl.Task {
	list := make([]impl.Task, n)
	for i := range list {
		var pairs []int64
		for before := range int64(i) {
			if r.IntN(3) == 0 {
				pairs = append(pairs, before, lag+r.Int64N(3-lag))
			}
		}
		list[i] = behind(r.Int64N(5), r.Int64N(4), pairs...)
	}
	return list
}

// greatTasks returns as many tasks as there can be, with the greatest numbers: each one is behind all before it.
func greatTasks() []impl.Task {
	list := make([]impl.Task, impl.MaxTasks)
	for i := range list {
		var pairs []int64
		for before := range int64(i) {
			pairs = append(pairs, before, 100)
		}
		list[i] = behind(100, impl.MaxCrew, pairs...)
	}
	return list
}

// badTasks returns lists that are not tasks, each of which has one number that is wrong by 1, or one task too many.
func badTasks() [][]impl.Task {
	good := impl.Task{Time: 1}
	lists := [][]impl.Task{nil, {}, repeated(good, impl.MaxTasks+1)}
	for _, bad := range []impl.Task{
		{Time: -1}, {Time: 101}, {Time: math.MinInt64}, {Time: math.MaxInt64},
		{Needs: -1}, {Needs: impl.MaxCrew + 1}, {Needs: math.MaxInt64},
		behind(1, 1, -1, 0), behind(1, 1, 2, 0), behind(1, 1, 3, 0), behind(1, 1, math.MinInt64, 0), behind(1, 1, math.MaxInt64, 0),
		behind(1, 1, 0, 0, 0, 0), behind(1, 1, 1, 0, 0, 0), behind(1, 1, 0, 0, 1, 0, 1, 0),
		behind(1, 1, 0, -101), behind(1, 1, 0, 101), behind(1, 1, 0, 0, 1, math.MinInt64), behind(1, 1, 0, math.MaxInt64),
		{Before: []int64{0}}, {Lags: []int64{0}}, {Before: []int64{0, 1}, Lags: []int64{0}}, {Before: []int64{0}, Lags: []int64{0, 0}},
	} {
		lists = append(lists, []impl.Task{good, good, bad}, []impl.Task{good, good, bad, good})
	}
	return lists
}

// readyByHand returns the least start of a task by the starts of its Before.
func readyByHand(list []impl.Task, starts []int64, i int) int64 {
	var ready int64
	for k, before := range list[i].Before {
		ready = max(ready, starts[before]+list[before].Time+list[i].Lags[k])
	}
	return ready
}

// earlyByHand returns the least starts that are not less than some starts, and their end: they are told again and again until nothing changes.
func earlyByHand(list []impl.Task, least []int64) ([]int64, int64) {
	starts := slices.Clone(least)
	for changed := true; changed; {
		changed = false
		for i := range list {
			if ready := readyByHand(list, starts, i); ready > starts[i] {
				starts[i], changed = ready, true
			}
		}
	}
	return starts, endByHand(list, starts)
}

// endByHand returns the greatest end.
func endByHand(list []impl.Task, starts []int64) int64 {
	var ends []int64
	for i := range list {
		ends = append(ends, starts[i]+list[i].Time)
	}
	return slices.Max(ends)
}

// lateByHand returns the greatest starts, told again and again until nothing changes; they can be less than 0.
func lateByHand(list []impl.Task, end int64) []int64 {
	var starts []int64
	for _, task := range list {
		starts = append(starts, end-task.Time)
	}
	for changed := true; changed; {
		changed = false
		for i := range list {
			for k, before := range list[i].Before {
				if latest := starts[i] - list[i].Lags[k] - list[before].Time; latest < starts[before] {
					starts[before], changed = latest, true
				}
			}
		}
	}
	return starts
}

// needsAt returns how many are needed at a time by some of the tasks.
func needsAt(list []impl.Task, starts, tasks []int64, at int64) int64 {
	var sum int64
	for _, i := range tasks {
		if starts[i] <= at && at < starts[i]+list[i].Time {
			sum += list[i].Needs
		}
	}
	return sum
}

// keepsByHand reports whether starts are a plan with a crew, however long it takes.
func keepsByHand(list []impl.Task, starts []int64, crew int64) bool {
	for i := range list {
		if starts[i] < readyByHand(list, starts, i) {
			return false
		}
	}
	for at := range endByHand(list, starts) {
		if needsAt(list, starts, upwards(len(list)), at) > crew {
			return false
		}
	}
	return true
}

// isTaskOrder reports whether each task stands behind all of its Before.
func isTaskOrder(list []impl.Task, order []int64) bool {
	for place, i := range order {
		for _, before := range list[i].Before {
			if !slices.Contains(order[:place], before) {
				return false
			}
		}
	}
	return true
}

// planByHand returns the plan of an order, and its end: for each task, one start after another is tried.
func planByHand(list []impl.Task, order []int64, crew int64) ([]int64, int64) {
	starts := make([]int64, len(list))
	for place, i := range order {
		fits := func(start int64) bool {
			for at := start; at < start+list[i].Time; at++ {
				if needsAt(list, starts, order[:place], at)+list[i].Needs > crew {
					return false
				}
			}
			return true
		}
		start := readyByHand(list, starts, int(i))
		for !fits(start) {
			start++
		}
		starts[i] = start
	}
	return starts, endByHand(list, starts)
}

// mostNeeds returns the least crew that is enough for each task.
func mostNeeds(list []impl.Task) int64 {
	var most int64
	for _, task := range list {
		most = max(most, task.Needs)
	}
	return most
}
