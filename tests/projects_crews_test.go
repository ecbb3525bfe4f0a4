package tests

import (
	"math"
	"slices"
	"testing"

	"loop.example/g01389/impl"
)

func TestCrewUse(t *testing.T) {
	r := drawer(41)
	for range 200 {
		list := drawTasks(r, 1+r.IntN(impl.MaxTasks), -4)
		starts := drawList(r, len(list), 0, 30)
		use, ok := impl.CrewUse(list, starts)
		want(t, "use succeeds", ok, true)
		var wanted []int64
		for at := range endByHand(list, starts) {
			wanted = append(wanted, needsAt(list, starts, upwards(len(list)), at))
		}
		wantList(t, "use", use, wanted)
	}
	one := []impl.Task{{Time: 2, Needs: 3}}
	use, ok := impl.CrewUse(one, []int64{1})
	want(t, "one task", ok, true)
	wantList(t, "one task", use, []int64{0, 3, 3})
	use, ok = impl.CrewUse([]impl.Task{{Needs: 3}}, []int64{0})
	want(t, "no time", ok && len(use) == 0, true)
	use, ok = impl.CrewUse([]impl.Task{{Needs: 3}}, []int64{2})
	want(t, "no time, but a start", ok, true)
	wantList(t, "no time, but a start", use, []int64{0, 0})
	use, ok = impl.CrewUse(one, []int64{impl.MaxTimes - 2})
	want(t, "the greatest end", ok && len(use) == impl.MaxTimes && use[impl.MaxTimes-1] == 3, true)
}

// wrongStarts returns starts that are none of two tasks that take at least 1.
func wrongStarts() [][]int64 {
	return [][]int64{nil, {0}, {0, 0, 0}, {-1, 0}, {0, -1}, {0, 100001}, {math.MinInt64, 0}, {0, math.MaxInt64}}
}

func TestCrewUseFails(t *testing.T) {
	list := repeated(impl.Task{Time: 2, Needs: 1}, 2)
	wrong := append(wrongStarts(), []int64{0, impl.MaxTimes - 1}, []int64{100000, 0})
	for _, starts := range wrong {
		use, ok := impl.CrewUse(list, starts)
		wantListFailure(t, "CrewUse", use, ok)
		want(t, "IsCrewPlan", impl.IsCrewPlan(list, starts, impl.MaxCrew), false)
	}
	for _, bad := range badTasks() {
		use, ok := impl.CrewUse(bad, make([]int64, len(bad)))
		wantListFailure(t, "CrewUse of no tasks", use, ok)
		want(t, "IsCrewPlan of no tasks", impl.IsCrewPlan(bad, make([]int64, len(bad)), impl.MaxCrew), false)
	}
}

func TestIsCrewPlan(t *testing.T) {
	r := drawer(42)
	plans := 0
	for range 3000 {
		list := drawTasks(r, 1+r.IntN(4), -4)
		starts := drawList(r, len(list), 0, 9)
		crew := r.Int64N(6)
		wanted := keepsByHand(list, starts, crew)
		want(t, "plan", impl.IsCrewPlan(list, starts, crew), wanted)
		if wanted {
			plans++
		}
	}
	want(t, "there are plans", plans > 300, true)
	list := threeTasks()
	want(t, "the crew reached", impl.IsCrewPlan(list, []int64{0, 0, 3}, 2), true)
	want(t, "the crew exceeded", impl.IsCrewPlan(list, []int64{0, 0, 3}, 1), false)
	want(t, "as early as it may", impl.IsCrewPlan(list, []int64{0, 2, 5}, 1), true)
	want(t, "too early", impl.IsCrewPlan(list, []int64{0, 2, 4}, 2), false)
	want(t, "the greatest crew", impl.IsCrewPlan(list, []int64{0, 0, 3}, impl.MaxCrew), true)
	for _, crew := range []int64{-1, impl.MaxCrew + 1, math.MinInt64, math.MaxInt64} {
		want(t, "a wrong crew", impl.IsCrewPlan(list, []int64{0, 0, 3}, crew), false)
	}
	want(t, "no crew for nothing", impl.IsCrewPlan([]impl.Task{{Time: 3}, {Needs: 9}}, []int64{0, 1}, 0), true)
	back := []impl.Task{{Time: 9, Needs: 1}, behind(1, 1, 0, -7)}
	want(t, "a lag that goes back", impl.IsCrewPlan(back, []int64{0, 2}, 2), true)
	want(t, "a lag that goes back too far", impl.IsCrewPlan(back, []int64{0, 1}, 2), false)
}

func TestOrderPlan(t *testing.T) {
	r := drawer(43)
	for range 200 {
		list := drawTasks(r, 1+r.IntN(5), -r.Int64N(6))
		crew := mostNeeds(list) + r.Int64N(3)
		for _, order := range allOrders(len(list)) {
			got := planOf(impl.OrderPlan(list, order, crew))
			if !isTaskOrder(list, order) {
				wantNoPlan(t, "an order of another one", got)
				continue
			}
			starts, end := planByHand(list, order, crew)
			wantPlan(t, "plan of an order", got, starts, end)
			want(t, "the plan is one", impl.IsCrewPlan(list, got.list, crew), true)
		}
	}
	// The last one taken goes to a gap before the others; without time, it does not wait at all.
	gap := []impl.Task{{Time: 2, Needs: 2}, behind(2, 2, 0, 3), {Time: 3, Needs: 1}, {Needs: 2}}
	wantPlan(t, "a gap", planOf(impl.OrderPlan(gap, upwards(4), 2)), []int64{0, 5, 2, 0}, 7)
	gap[2].Time = 4
	wantPlan(t, "a gap that is less by 1", planOf(impl.OrderPlan(gap, upwards(4), 2)), []int64{0, 5, 7, 0}, 11)
	wantPlan(t, "no crew", planOf(impl.OrderPlan([]impl.Task{{Time: 3}, {Time: 4}}, []int64{1, 0}, 0)), []int64{0, 0}, 4)
}

func TestOrderPlanOfGreatTasks(t *testing.T) {
	starts, end := planByHand(greatTasks(), upwards(impl.MaxTasks), impl.MaxCrew)
	wantPlan(t, "great tasks", planOf(impl.OrderPlan(greatTasks(), upwards(impl.MaxTasks), impl.MaxCrew)), starts, end)
	// Without Before, each one waits for the one taken before it; ends are greater than MaxTimes.
	alone := repeated(impl.Task{Time: 100, Needs: impl.MaxCrew}, impl.MaxTasks)
	order := upwards(impl.MaxTasks)
	slices.Reverse(order)
	starts, end = planByHand(alone, order, impl.MaxCrew)
	wantPlan(t, "tasks alone", planOf(impl.OrderPlan(alone, order, impl.MaxCrew)), starts, 1600)
	want(t, "their end", end, 1600)
}

func TestOrderPlanFails(t *testing.T) {
	list := repeated(impl.Task{Time: 1, Needs: 2}, 3)
	for _, order := range badOrders(3) {
		wantNoPlan(t, "a wrong order", planOf(impl.OrderPlan(list, order, 2)))
	}
	for _, crew := range []int64{1, 0, -1, impl.MaxCrew + 1, math.MinInt64, math.MaxInt64} {
		wantNoPlan(t, "a wrong crew", planOf(impl.OrderPlan(list, upwards(3), crew)))
		wantNoPlan(t, "a wrong crew for the best", planOf(impl.BestPlan(list, crew)))
		for kind := range int64(kindsOfPlans) {
			wantNoPlan(t, "a wrong crew for a rule", planOf(impl.RulePlan(list, kind, crew)))
		}
	}
	for _, crew := range []int64{2, impl.MaxCrew} {
		_, _, ok := impl.OrderPlan(list, upwards(3), crew)
		want(t, "a right crew", ok, true)
	}
	wantNoPlan(t, "more than the crew, for no time", planOf(impl.OrderPlan([]impl.Task{{Needs: 3}}, upwards(1), 2)))
	for _, bad := range badTasks() {
		wantNoPlan(t, "no tasks", planOf(impl.OrderPlan(bad, upwards(len(bad)), impl.MaxCrew)))
		wantNoPlan(t, "no tasks for the best", planOf(impl.BestPlan(bad, impl.MaxCrew)))
		for kind := range int64(kindsOfPlans) {
			wantNoPlan(t, "no tasks for a rule", planOf(impl.RulePlan(bad, kind, impl.MaxCrew)))
		}
	}
}

// ruleByHand returns the order of a rule.
func ruleByHand(list []impl.Task, kind int64) []int64 {
	early, end := earlyByHand(list, make([]int64, len(list)))
	late := lateByHand(list, end)
	better := func(i, k int64) bool {
		switch kind {
		case 0:
			return late[i] < late[k]
		case 1:
			return list[i].Time > list[k].Time
		case 2:
			return late[i]-early[i] < late[k]-early[k]
		}
		return list[i].Time*list[i].Needs > list[k].Time*list[k].Needs
	}
	var order []int64
	for len(order) < len(list) {
		next := int64(-1)
		for i := range int64(len(list)) {
			if slices.Contains(order, i) || !isTaskOrder(list, append(slices.Clone(order), i)) {
				continue
			}
			if next < 0 || better(i, next) {
				next = i
			}
		}
		order = append(order, next)
	}
	return order
}

func TestRulePlan(t *testing.T) {
	r := drawer(44)
	for range 300 {
		list := drawTasks(r, 1+r.IntN(impl.MaxTasks), -r.Int64N(6))
		crew := mostNeeds(list) + r.Int64N(3)
		for kind := range int64(kindsOfPlans) {
			starts, end := planByHand(list, ruleByHand(list, kind), crew)
			got := planOf(impl.RulePlan(list, kind, crew))
			wantPlan(t, "plan of a rule", got, starts, end)
			want(t, "the plan is one", keepsByHand(list, got.list, crew), true)
		}
	}
}

func TestRulePlanByHand(t *testing.T) {
	list := []impl.Task{{Time: 2, Needs: 2}, {Time: 3, Needs: 1}, {Time: 1, Needs: 2}, behind(5, 1, 2, 0)}
	late := planOf([]int64{6, 1, 0, 1}, 8, true)
	for kind, plan := range []plan{late, planOf([]int64{3, 0, 5, 6}, 11, true), late, planOf([]int64{0, 2, 5, 6}, 11, true)} {
		wantPlan(t, "plan of a rule", planOf(impl.RulePlan(list, int64(kind), 2)), plan.list, plan.number)
	}
	// The least late start is not always that with the least slack.
	list = []impl.Task{{Time: 5, Needs: 1}, {Time: 1, Needs: 1}, behind(2, 1, 0, 0), behind(2, 1, 1, 0)}
	wantPlan(t, "late starts", planOf(impl.RulePlan(list, 0, 1)), []int64{0, 5, 6, 8}, 10)
	wantPlan(t, "slacks", planOf(impl.RulePlan(list, 2, 1)), []int64{0, 7, 5, 8}, 10)
	equal := repeated(impl.Task{Time: 2, Needs: 1}, 4)
	for kind := range int64(kindsOfPlans) {
		wantPlan(t, "equal tasks", planOf(impl.RulePlan(equal, kind, 2)), []int64{0, 0, 2, 2}, 4)
		wantPlan(t, "no time", planOf(impl.RulePlan([]impl.Task{{}, behind(0, 0, 0, 3)}, kind, 0)), []int64{0, 3}, 3)
	}
	for _, kind := range []int64{-1, kindsOfPlans, math.MinInt64, math.MaxInt64} {
		wantNoPlan(t, "a wrong kind", planOf(impl.RulePlan(list, kind, 2)))
	}
}

func TestBestPlan(t *testing.T) {
	r := drawer(45)
	for range 150 {
		list := drawTasks(r, 1+r.IntN(6), -r.Int64N(6))
		crew := mostNeeds(list) + r.Int64N(3)
		var best []int64
		least := int64(math.MaxInt64)
		for _, order := range allOrders(len(list)) {
			if isTaskOrder(list, order) {
				if starts, end := planByHand(list, order, crew); end < least {
					best, least = starts, end
				}
			}
		}
		wantPlan(t, "best plan", planOf(impl.BestPlan(list, crew)), best, least)
	}
	equal := repeated(impl.Task{Time: 100, Needs: 3}, impl.MaxSmall)
	wantPlan(t, "equal tasks", planOf(impl.BestPlan(equal, 6)), []int64{0, 0, 100, 100, 200, 200, 300}, 400)
	wantPlan(t, "one task", planOf(impl.BestPlan([]impl.Task{{}}, 0)), []int64{0}, 0)
	wantNoPlan(t, "too many tasks", planOf(impl.BestPlan(repeated(impl.Task{Time: 1}, impl.MaxSmall+1), 1)))
}

// TestBestPlanIsBest compares it with all rules, with its bound, and with all starts where lags do not go back.
func TestBestPlanIsBest(t *testing.T) {
	r := drawer(46)
	for range 200 {
		list := drawTasks(r, 1+r.IntN(impl.MaxSmall), -3*r.Int64N(2))
		crew := mostNeeds(list) + r.Int64N(2)
		starts, least, ok := impl.BestPlan(list, crew)
		want(t, "the best plan is one", ok && keepsByHand(list, starts, crew) && endByHand(list, starts) == least, true)
		for kind := range int64(kindsOfPlans) {
			_, end, ok := impl.RulePlan(list, kind, crew)
			want(t, "a rule is no better", ok && end >= least, true)
		}
		if bound, ok := impl.PlanBound(list, crew); ok {
			want(t, "the bound is no worse", bound <= least, true)
			wantNoEarlierPlan(t, list, crew, least)
		}
	}
}

// wantNoEarlierPlan fails if there are starts of a plan that ends before least, for few tasks.
func wantNoEarlierPlan(t *testing.T, list []impl.Task, crew, least int64) {
	t.Helper()
	starts := make([]int64, min(4, len(list)))
	if len(list) > len(starts) {
		return
	}
	var try func(i int)
	try = func(i int) {
		if i < len(starts) {
			for starts[i] = 0; starts[i]+list[i].Time < least; starts[i]++ {
				try(i + 1)
			}
		} else if keepsByHand(list, starts, crew) {
			t.Errorf("%v with a crew of %d: %v end before %d", list, crew, starts, least)
		}
	}
	try(0)
}

func TestPlanBound(t *testing.T) {
	r := drawer(47)
	for range 300 {
		list := drawTasks(r, 1+r.IntN(impl.MaxTasks), 0)
		crew := max(1, mostNeeds(list)) + r.Int64N(3)
		_, bound := earlyByHand(list, make([]int64, len(list)))
		var work int64
		for _, task := range list {
			work += task.Time * task.Needs
		}
		for bound*crew < work {
			bound++
		}
		got, ok := impl.PlanBound(list, crew)
		want(t, "bound", ok && got == bound, true)
	}
	for crew, bound := range map[int64]int64{2: 5, 3: 4, 4: 3, 9: 3, impl.MaxCrew: 3} {
		got, ok := impl.PlanBound([]impl.Task{{Time: 3, Needs: 1}, {Time: 3, Needs: 2}, {Time: 1, Needs: 1}}, crew)
		want(t, "bound rounded up", ok && got == bound, true)
	}
	got, ok := impl.PlanBound([]impl.Task{{}}, 1)
	want(t, "no time", ok && got == 0, true)
}

func TestPlanBoundFails(t *testing.T) {
	list := []impl.Task{{Time: 1, Needs: 2}, behind(1, 2, 0, 0)}
	for _, crew := range []int64{1, 0, -1, impl.MaxCrew + 1, math.MinInt64, math.MaxInt64} {
		bound, ok := impl.PlanBound(list, crew)
		wantFailure(t, "a wrong crew", bound, ok)
	}
	bound, ok := impl.PlanBound([]impl.Task{{Time: 1}}, 0)
	wantFailure(t, "no crew for no needs", bound, ok)
	bound, ok = impl.PlanBound([]impl.Task{list[0], behind(1, 2, 0, -1)}, 2)
	wantFailure(t, "a lag that goes back", bound, ok)
	for _, bad := range badTasks() {
		bound, ok = impl.PlanBound(bad, impl.MaxCrew)
		wantFailure(t, "no tasks", bound, ok)
	}
}

func TestCrewsShared(t *testing.T) {
	r := drawer(48)
	for range 30 {
		list := drawTasks(r, 1+r.IntN(impl.MaxTasks), -r.Int64N(6))
		crews := drawList(r, r.IntN(17), mostNeeds(list), impl.MaxCrew)
		var ends []int64
		for _, crew := range crews {
			_, end := planByHand(list, ruleByHand(list, 0), crew)
			ends = append(ends, end)
		}
		for workers := int64(1); workers <= impl.MaxWorkers; workers++ {
			got, ok := impl.CrewsShared(list, crews, workers)
			want(t, "ends succeed", ok, true)
			wantList(t, "ends", got, ends)
		}
	}
}

func TestCrewsSharedFails(t *testing.T) {
	list := []impl.Task{{Time: 1, Needs: 2}}
	for _, workers := range []int64{0, -1, impl.MaxWorkers + 1, math.MinInt64, math.MaxInt64} {
		for _, crews := range [][]int64{nil, {2}} {
			ends, ok := impl.CrewsShared(list, crews, workers)
			wantListFailure(t, "wrong workers", ends, ok)
		}
	}
	_, ok := impl.CrewsShared(list, repeated[int64](2, 16), 3)
	want(t, "16 crews", ok, true)
	for workers := int64(1); workers <= impl.MaxWorkers; workers++ {
		for _, crews := range [][]int64{repeated[int64](2, 17), {2, 1}, {-1, 2, 2}, {2, impl.MaxCrew + 1, 2}, {math.MaxInt64}} {
			ends, ok := impl.CrewsShared(list, crews, workers)
			wantListFailure(t, "wrong crews", ends, ok)
		}
		for _, bad := range badTasks() {
			for _, crews := range [][]int64{nil, {impl.MaxCrew}} {
				ends, ok := impl.CrewsShared(bad, crews, workers)
				wantListFailure(t, "no tasks", ends, ok)
			}
		}
	}
}
