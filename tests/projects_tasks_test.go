package tests

import (
	"math"
	"slices"
	"testing"

	"loop.example/g01389/impl"
)

// TestProjectsExample checks the examples at the end of chapter 3.
func TestProjectsExample(t *testing.T) {
	wantPlan(t, "early starts", planOf(impl.EarlyStarts(threeTasks())), []int64{0, 0, 3}, 4)
	slack, ok := impl.SlackOf(threeTasks())
	want(t, "slack succeeds", ok, true)
	wantList(t, "slack", slack, []int64{1, 0, 0})
	for kind := range int64(kindsOfPlans) {
		_, end, ok := impl.RulePlan(threeTasks(), kind, 1)
		want(t, "a crew of 1", ok && end == 6, true)
	}
	_, end, ok := impl.BestPlan(threeTasks(), 1)
	want(t, "a crew of 1 at best", ok && end == 6, true)
	mean, spread, ok := impl.MeanTime(1, 2, 3)
	want(t, "mean", ok && mean == 2, true)
	want(t, "spread", math.Abs(float64(spread)-1.0/9) < 1e-7, true)
}

func TestAreTasks(t *testing.T) {
	for _, list := range [][]impl.Task{
		{{}}, threeTasks(), greatTasks(), repeated(impl.Task{}, impl.MaxTasks),
		{{Time: 100, Needs: impl.MaxCrew}, behind(0, 0, 0, 100), behind(0, 0, 0, -100, 1, 100)},
		{{Before: []int64{}, Lags: []int64{}}},
	} {
		want(t, "tasks", impl.AreTasks(list), true)
	}
	for _, list := range badTasks() {
		want(t, "no tasks", impl.AreTasks(list), false)
	}
	want(t, "a task behind itself", impl.AreTasks([]impl.Task{behind(1, 1, 0, 0)}), false)
	want(t, "a task behind a later one", impl.AreTasks([]impl.Task{behind(1, 1, 1, 0), {}}), false)
}

func TestSameTasks(t *testing.T) {
	list := threeTasks()
	want(t, "same", impl.SameTasks(list, threeTasks()), true)
	want(t, "none", impl.SameTasks(nil, []impl.Task{}), true)
	want(t, "nil and empty", impl.SameTasks([]impl.Task{{}}, []impl.Task{{Before: []int64{}, Lags: []int64{}}}), true)
	for i, bad := range badTasks() {
		want(t, "same, but not valid", impl.SameTasks(bad, copyOfTasks(bad)), true)
		want(t, "others", impl.SameTasks(bad, list) || impl.SameTasks(list, bad), false)
		for k, other := range badTasks() {
			if len(bad) > 0 && i != k {
				want(t, "other ones that are not valid", impl.SameTasks(bad, other), false)
			}
		}
	}
	want(t, "fewer", impl.SameTasks(list, list[:2]) || impl.SameTasks(list[:2], list) || impl.SameTasks(list, nil), false)
	want(t, "in another order", impl.SameTasks(list[:2], []impl.Task{list[1], list[0]}), false)
	for _, change := range []func(task *impl.Task){
		func(task *impl.Task) { task.Time++ }, func(task *impl.Task) { task.Needs++ },
		func(task *impl.Task) { task.Time, task.Needs = task.Needs+1, task.Time+1 },
		func(task *impl.Task) { task.Before[1]++ }, func(task *impl.Task) { task.Lags[0]-- },
		func(task *impl.Task) { task.Before = task.Before[:1] }, func(task *impl.Task) { task.Lags = task.Lags[:1] },
		func(task *impl.Task) { task.Before = nil }, func(task *impl.Task) { task.Lags = nil },
		func(task *impl.Task) { task.Before, task.Lags = task.Before[:1], []int64{1, 0, 0} },
	} {
		other := threeTasks()
		change(&other[2])
		want(t, "changed", impl.SameTasks(list, other) || impl.SameTasks(other, list), false)
	}
}

func TestEarlyStarts(t *testing.T) {
	r := drawer(31)
	for range 400 {
		list := drawTasks(r, 1+r.IntN(impl.MaxTasks), -r.Int64N(9))
		starts, end := earlyByHand(list, make([]int64, len(list)))
		wantPlan(t, "early starts", planOf(impl.EarlyStarts(list)), starts, end)
	}
	wantPlan(t, "no time", planOf(impl.EarlyStarts([]impl.Task{{}, behind(0, 0, 0, 0)})), []int64{0, 0}, 0)
	wantPlan(t, "a lag behind no time", planOf(impl.EarlyStarts([]impl.Task{{}, behind(0, 0, 0, 100)})), []int64{0, 100}, 100)
	wantPlan(t, "back to 0", planOf(impl.EarlyStarts([]impl.Task{{Time: 9}, behind(1, 0, 0, -100), behind(1, 0, 0, -9), behind(1, 0, 0, -8)})), []int64{0, 0, 0, 1}, 9)
	wantPlan(t, "back, and on", planOf(impl.EarlyStarts([]impl.Task{{Time: 9}, behind(2, 0, 0, -5), behind(1, 0, 0, -6, 1, 3)})), []int64{0, 4, 9}, 10)
	early, end, ok := impl.EarlyStarts(greatTasks())
	want(t, "the greatest end", ok && end == 3100 && early[impl.MaxTasks-1] == 3000, true)
}

func TestLateStarts(t *testing.T) {
	r := drawer(32)
	for range 400 {
		list := drawTasks(r, 1+r.IntN(impl.MaxTasks), -r.Int64N(9))
		_, end := earlyByHand(list, make([]int64, len(list)))
		for _, later := range []int64{0, 1, 17, 100000 - end} {
			starts, ok := impl.LateStarts(list, end+later)
			want(t, "late starts succeed", ok, true)
			wantList(t, "late starts", starts, lateByHand(list, end+later))
		}
		none, ok := impl.LateStarts(list, end-1)
		wantListFailure(t, "an end that is less by 1", none, ok)
	}
	none, ok := impl.LateStarts(threeTasks(), 100001)
	wantListFailure(t, "an end that is greater by 1", none, ok)
	for _, end := range []int64{-1, math.MinInt64, math.MaxInt64} {
		none, ok = impl.LateStarts([]impl.Task{{}}, end)
		wantListFailure(t, "a wrong end", none, ok)
	}
	// A task that may start behind another one's start still keeps what comes behind it.
	starts, ok := impl.LateStarts([]impl.Task{{Time: 9}, behind(1, 0, 0, -100)}, 12)
	want(t, "a lag that goes back", ok, true)
	wantList(t, "a lag that goes back", starts, []int64{3, 11})
}

// TestSlackOf looks for the greatest delay of each task with which the end stays.
func TestSlackOf(t *testing.T) {
	r := drawer(33)
	for range 300 {
		list := drawTasks(r, 1+r.IntN(impl.MaxTasks), -r.Int64N(9))
		early, end := earlyByHand(list, make([]int64, len(list)))
		slack, ok := impl.SlackOf(list)
		free, fine := impl.FreeSlackOf(list)
		want(t, "slacks succeed", ok && fine && len(slack) == len(list) && len(free) == len(list), true)
		for i := range list {
			for more := range int64(2) {
				delayed := slices.Clone(early)
				delayed[i] += slack[i] + more
				_, last := earlyByHand(list, delayed)
				want(t, "the end stays", last == end, more == 0)
				delayed[i] = early[i] + free[i] + more
				starts, last := earlyByHand(list, delayed)
				want(t, "the end and the other starts stay", last == end && slices.Equal(starts, delayed), more == 0)
			}
			want(t, "free slack is at most slack", 0 <= free[i] && free[i] <= slack[i], true)
		}
		want(t, "a task has no slack", slices.Contains(slack, 0), true)
	}
}

func TestFreeSlackOf(t *testing.T) {
	// The first task has slack, but none that is free, as the second one comes right behind it.
	chain := []impl.Task{{Time: 2}, behind(2, 0, 0, 1), {Time: 9}}
	slack, _ := impl.SlackOf(chain)
	wantList(t, "slack", slack, []int64{4, 4, 0})
	free, _ := impl.FreeSlackOf(chain)
	wantList(t, "free slack", free, []int64{0, 4, 0})
	back := []impl.Task{{Time: 2}, behind(2, 0, 0, -100), {Time: 9}}
	free, _ = impl.FreeSlackOf(back)
	wantList(t, "free slack with a lag that goes back", free, []int64{7, 7, 0})
	free, _ = impl.FreeSlackOf([]impl.Task{{}, {Time: 4}})
	wantList(t, "free slack without time", free, []int64{4, 0})
}

// wayByHand returns the longest way from its last task back.
func wayByHand(list []impl.Task) []int64 {
	early, end := earlyByHand(list, make([]int64, len(list)))
	var back func(i int64) []int64
	back = func(i int64) []int64 {
		if early[i] != 0 {
			for k, before := range list[i].Before {
				if early[before]+list[before].Time+list[i].Lags[k] == early[i] {
					return append(back(before), i)
				}
			}
		}
		return []int64{i}
	}
	for i := range list {
		if early[i]+list[i].Time == end {
			return back(int64(i))
		}
	}
	return nil
}

func TestLongestWay(t *testing.T) {
	r := drawer(34)
	for range 400 {
		list := drawTasks(r, 1+r.IntN(impl.MaxTasks), -r.Int64N(9))
		way, ok := impl.LongestWay(list)
		want(t, "a longest way succeeds", ok, true)
		wantList(t, "longest way", way, wayByHand(list))
	}
	for _, c := range []struct {
		what string
		list []impl.Task
		way  []int64
	}{
		{"one task", []impl.Task{{}}, []int64{0}},
		{"the first of several ends", []impl.Task{{Time: 1}, {Time: 3}, {Time: 3}, behind(2, 0, 0, 0)}, []int64{1}},
		{"the first of several tells", []impl.Task{{Time: 1}, {Time: 3}, {Time: 2}, behind(2, 0, 0, 0, 1, 0, 2, 1)}, []int64{1, 3}},
		{"a start of 0 ends the way", []impl.Task{{}, behind(3, 0, 0, 0), behind(1, 0, 1, 0)}, []int64{1, 2}},
		{"a lag tells", []impl.Task{{}, {Time: 5}, behind(1, 0, 0, 9, 1, 3)}, []int64{0, 2}},
		{"no time, but a lag", []impl.Task{{}, behind(0, 0, 0, 2), behind(0, 0, 1, 0), behind(0, 0, 2, 1)}, []int64{0, 1, 2, 3}},
		{"a lag back to a start of 0", []impl.Task{{Time: 4}, behind(5, 0, 0, -4)}, []int64{1}},
	} {
		way, ok := impl.LongestWay(c.list)
		want(t, c.what, ok, true)
		wantList(t, c.what, way, c.way)
	}
}

// waysByHand counts the ways from a task on.
func waysByHand(list []impl.Task, from int64) int64 {
	count, last := int64(0), true
	for i, task := range list {
		if slices.Contains(task.Before, from) {
			count += waysByHand(list, int64(i))
			last = false
		}
	}
	if last {
		return 1
	}
	return count
}

func TestCountWays(t *testing.T) {
	r := drawer(35)
	for range 200 {
		list := drawTasks(r, 1+r.IntN(12), -1)
		var count int64
		for i, task := range list {
			if len(task.Before) == 0 {
				count += waysByHand(list, int64(i))
			}
		}
		got, ok := impl.CountWays(list)
		want(t, "ways succeed", ok, true)
		want(t, "ways", got, count)
	}
	for _, c := range []struct {
		list []impl.Task
		ways int64
	}{
		{[]impl.Task{{}}, 1}, {threeTasks(), 2}, {repeated(impl.Task{}, impl.MaxTasks), impl.MaxTasks},
		{greatTasks(), 1 << (impl.MaxTasks - 2)},
	} {
		got, ok := impl.CountWays(c.list)
		want(t, "ways", ok && got == c.ways, true)
	}
}

func TestBehindOf(t *testing.T) {
	r := drawer(36)
	for range 200 {
		list := drawTasks(r, 1+r.IntN(impl.MaxTasks), -1)
		sets, ok := impl.BehindOf(list)
		want(t, "sets succeed", ok && len(sets) == len(list), true)
		var isBehind func(i, k int64) bool
		isBehind = func(i, k int64) bool {
			return slices.ContainsFunc(list[i].Before, func(before int64) bool { return before == k || isBehind(before, k) })
		}
		for i := range int64(len(list)) {
			var set int64
			for k := range int64(len(list)) {
				if isBehind(i, k) {
					set += 1 << k
				}
			}
			want(t, "set", sets[i], set)
		}
	}
	sets, _ := impl.BehindOf(greatTasks())
	for i, set := range sets {
		want(t, "set of all before", set, 1<<i-1)
	}
	chain := []impl.Task{{}, behind(0, 0, 0, 0), {}, behind(0, 0, 1, -100)}
	sets, _ = impl.BehindOf(chain)
	wantList(t, "directly and by others", sets, []int64{0, 1, 0, 3})
}

func TestTasksFail(t *testing.T) {
	for _, list := range badTasks() {
		wantNoPlan(t, "EarlyStarts", planOf(impl.EarlyStarts(list)))
		late, ok := impl.LateStarts(list, 1000)
		wantListFailure(t, "LateStarts", late, ok)
		slack, ok := impl.SlackOf(list)
		wantListFailure(t, "SlackOf", slack, ok)
		free, ok := impl.FreeSlackOf(list)
		wantListFailure(t, "FreeSlackOf", free, ok)
		way, ok := impl.LongestWay(list)
		wantListFailure(t, "LongestWay", way, ok)
		ways, ok := impl.CountWays(list)
		wantFailure(t, "CountWays", ways, ok)
		sets, ok := impl.BehindOf(list)
		wantListFailure(t, "BehindOf", sets, ok)
	}
}
