package tests

import (
	"math"
	"slices"
	"testing"

	"loop.example/g01389/impl"
)

// squaresByHand returns the sum of the squares of what is needed at all times.
func squaresByHand(list []impl.Task, starts []int64) int64 {
	var sum int64
	for at := range endByHand(list, starts) {
		needs := needsAt(list, starts, upwards(len(list)), at)
		sum += needs * needs
	}
	return sum
}

// levelByHand carries out LevelPlan: a start is allowed if no task starts too early with it.
func levelByHand(list []impl.Task, end, rounds int64) ([]int64, int64) {
	starts, _ := earlyByHand(list, make([]int64, len(list)))
	for range rounds {
		for i := len(list) - 1; i >= 0; i-- {
			best, least := int64(-1), int64(math.MaxInt64)
			for start := int64(0); start+list[i].Time <= end; start++ {
				tried := slices.Clone(starts)
				tried[i] = start
				if sum := squaresByHand(list, tried); keepsByHand(list, tried, math.MaxInt64) && sum <= least {
					best, least = start, sum
				}
			}
			starts[i] = best
		}
	}
	return starts, squaresByHand(list, starts)
}

func TestLevelPlan(t *testing.T) {
	r := drawer(51)
	for range 250 {
		list := drawTasks(r, 1+r.IntN(7), -r.Int64N(6))
		_, end := earlyByHand(list, make([]int64, len(list)))
		end += r.Int64N(6)
		rounds := r.Int64N(9)
		starts, sum := levelByHand(list, end, rounds)
		got := planOf(impl.LevelPlan(list, end, rounds))
		wantPlan(t, "level plan", got, starts, sum)
		want(t, "all end by the end", endByHand(list, got.list) <= end && keepsByHand(list, got.list, math.MaxInt64), true)
	}
}

func TestLevelPlanByHand(t *testing.T) {
	list := threeTasks()
	wantPlan(t, "no rounds", planOf(impl.LevelPlan(list, 4, 0)), []int64{0, 0, 3}, 10)
	wantPlan(t, "no room", planOf(impl.LevelPlan(list, 4, 8)), []int64{1, 0, 3}, 10)
	wantPlan(t, "one round", planOf(impl.LevelPlan(list, 5, 1)), []int64{0, 1, 4}, 8)
	wantPlan(t, "more room", planOf(impl.LevelPlan(list, 6, 1)), []int64{0, 2, 5}, 6)
	// The last one of several starts is taken: the one in the end, as nothing is needed, or nothing takes time.
	wantPlan(t, "no needs", planOf(impl.LevelPlan([]impl.Task{{Time: 2}, {Needs: 5}}, impl.MaxTimes, 1)), []int64{impl.MaxTimes - 2, impl.MaxTimes}, 0)
	wantPlan(t, "no time at all", planOf(impl.LevelPlan([]impl.Task{{Needs: 5}}, 0, 8)), []int64{0}, 0)
	// The last task is moved first, and leaves room to the one before it.
	chain := []impl.Task{{Time: 1, Needs: 1}, behind(1, 1, 0, 0)}
	wantPlan(t, "a chain", planOf(impl.LevelPlan(chain, 4, 1)), []int64{2, 3}, 2)
	back := []impl.Task{{Time: 4, Needs: 1}, behind(1, 1, 0, -3), behind(1, 1, 0, -3)}
	starts, sum := levelByHand(back, 6, 3)
	wantPlan(t, "lags that go back", planOf(impl.LevelPlan(back, 6, 3)), starts, sum)
	great := repeated(impl.Task{Time: 100, Needs: impl.MaxCrew}, impl.MaxTasks)
	got := planOf(impl.LevelPlan(great, impl.MaxTimes, 8))
	want(t, "great tasks", got.ok && got.number == 100*4*(80*80), true)
}

func TestLevelPlanFails(t *testing.T) {
	for _, end := range []int64{3, 0, -1, impl.MaxTimes + 1, math.MinInt64, math.MaxInt64} {
		wantNoPlan(t, "a wrong end", planOf(impl.LevelPlan(threeTasks(), end, 1)))
	}
	for _, rounds := range []int64{-1, 9, math.MinInt64, math.MaxInt64} {
		wantNoPlan(t, "wrong rounds", planOf(impl.LevelPlan(threeTasks(), 5, rounds)))
	}
	long := []impl.Task{{Time: 100}, behind(100, 0, 0, 100), behind(100, 0, 1, 0)}
	_, _, ok := impl.LevelPlan(long, impl.MaxTimes, 8)
	want(t, "the greatest end", ok, true)
	long[2].Lags[0] = 1
	wantNoPlan(t, "an end that is greater by 1", planOf(impl.LevelPlan(long, impl.MaxTimes+1, 8)))
	wantNoPlan(t, "tasks that end later", planOf(impl.LevelPlan(long, impl.MaxTimes, 8)))
	for _, bad := range badTasks() {
		wantNoPlan(t, "no tasks", planOf(impl.LevelPlan(bad, impl.MaxTimes, 1)))
	}
}

// hasteByHand looks at all lists of numbers from 0 to 3, the least one first.
func hasteByHand(list []impl.Task, most, costs []int64, end int64) plan {
	var best plan
	for code := range 1 << (2 * len(list)) {
		shorter := slices.Clone(list)
		by := make([]int64, len(list))
		fits := true
		var cost int64
		for i := range list {
			by[i] = int64(code >> (2 * (len(list) - 1 - i)) & 3)
			shorter[i].Time -= by[i]
			cost += by[i] * costs[i]
			fits = fits && by[i] <= most[i] && shorter[i].Time >= 0
		}
		_, last := earlyByHand(shorter, make([]int64, len(list)))
		if fits && last <= end && (!best.ok || cost < best.number) {
			best = plan{by, cost, true}
		}
	}
	return best
}

func TestHastePlan(t *testing.T) {
	r := drawer(52)
	found, none := 0, 0
	for range 400 {
		n := 1 + r.IntN(5)
		list := drawTasks(r, n, -r.Int64N(3))
		most, costs := drawList(r, n, 0, 3), drawList(r, n, 0, 2)
		_, end := earlyByHand(list, make([]int64, n))
		end = max(0, end-r.Int64N(6))
		wanted := hasteByHand(list, most, costs, end)
		got := planOf(impl.HastePlan(list, most, costs, end))
		if wanted.ok {
			wantPlan(t, "haste", got, wanted.list, wanted.number)
			found++
		} else {
			wantNoPlan(t, "haste that is not enough", got)
			none++
		}
	}
	want(t, "both happen", found > 50 && none > 50, true)
}

func TestHastePlanByHand(t *testing.T) {
	one := []impl.Task{{Time: 2}}
	wantPlan(t, "no haste", planOf(impl.HastePlan(one, []int64{3}, []int64{1000}, 2)), []int64{0}, 0)
	wantPlan(t, "no more than its Time", planOf(impl.HastePlan(one, []int64{3}, []int64{1000}, 0)), []int64{2}, 2000)
	wantNoPlan(t, "no more than most", planOf(impl.HastePlan(one, []int64{1}, []int64{1}, 0)))
	wantPlan(t, "the greatest end", planOf(impl.HastePlan(one, []int64{3}, []int64{0}, 100000)), []int64{0}, 0)
	// Of plans that cost the same, the one that makes the first task less shorter comes first.
	chain := []impl.Task{{Time: 4}, behind(4, 0, 0, 0), behind(4, 0, 1, 0)}
	wantPlan(t, "equal costs", planOf(impl.HastePlan(chain, []int64{3, 3, 3}, []int64{5, 5, 5}, 8)), []int64{0, 1, 3}, 20)
	wantPlan(t, "no costs", planOf(impl.HastePlan(chain, []int64{3, 3, 3}, []int64{0, 0, 0}, 8)), []int64{0, 1, 3}, 0)
	wantPlan(t, "other costs", planOf(impl.HastePlan(chain, []int64{3, 2, 3}, []int64{5, 4, 6}, 8)), []int64{2, 2, 0}, 18)
	five := repeated(impl.Task{Time: 3}, 5)
	wantPlan(t, "five tasks", planOf(impl.HastePlan(five, repeated[int64](3, 5), repeated[int64](1000, 5), 0)), repeated[int64](3, 5), 15000)
	back := []impl.Task{{Time: 5}, behind(5, 0, 0, -4)}
	wantPlan(t, "a lag that goes back", planOf(impl.HastePlan(back, []int64{3, 3}, []int64{1, 2}, 4)), []int64{1, 1}, 3)
}

func TestHastePlanFails(t *testing.T) {
	list := repeated(impl.Task{Time: 3}, 2)
	good := []int64{3, 3}
	for _, wrong := range [][]int64{nil, {1}, {1, 1, 1}, {-1, 0}, {0, 4}, {math.MinInt64, 0}, {0, math.MaxInt64}} {
		wantNoPlan(t, "wrong most", planOf(impl.HastePlan(list, wrong, good, 9)))
	}
	for _, wrong := range [][]int64{nil, {1}, {1, 1, 1}, {-1, 0}, {0, 1001}, {math.MinInt64, 0}, {0, math.MaxInt64}} {
		wantNoPlan(t, "wrong costs", planOf(impl.HastePlan(list, good, wrong, 9)))
	}
	for _, end := range []int64{-1, 100001, math.MinInt64, math.MaxInt64} {
		wantNoPlan(t, "a wrong end", planOf(impl.HastePlan(list, good, good, end)))
	}
	six := repeated(impl.Task{}, 6)
	wantNoPlan(t, "too many tasks", planOf(impl.HastePlan(six, make([]int64, 6), make([]int64, 6), 9)))
	for _, bad := range badTasks() {
		none := make([]int64, len(bad))
		wantNoPlan(t, "no tasks", planOf(impl.HastePlan(bad, none, none, 1000)))
	}
}
