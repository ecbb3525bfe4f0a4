package tests

import (
	"math"
	"slices"
	"testing"

	"loop.example/g01389/impl"
)

// wrongRoutes are lists that are no routes for as many machines.
func wrongRoutes() []wrongShop {
	shops := []wrongShop{
		{nil, 1}, {nil, 2}, {[]int64{}, 8}, {[]int64{0, 0}, 2}, {[]int64{1, 1}, 2}, {[]int64{0}, 2}, {[]int64{0, 1, 0}, 2}, {[]int64{1}, 1},
		{[]int64{0, 2}, 2}, {[]int64{-1, 0}, 2}, {[]int64{1, 2}, 2}, {[]int64{0, 1, 1, 1}, 2}, {[]int64{0, 1, 0, 2}, 2},
		// Both jobs together go to each machine twice, but not each one once.
		{[]int64{0, 0, 1, 1}, 2}, {[]int64{0, 1, 2, 0, 1, 1, 2, 0, 2}, 3},
		{repeated[int64](0, impl.MaxJobs+1), 1}, {straight(impl.MaxJobs+1, 2), 2}, {straight(1, 9), 9}, {straight(2, 9), 9},
	}
	for _, number := range []int64{0, -1, -2, math.MinInt64, math.MaxInt64} {
		shops = append(shops, wrongShop{nil, number}, wrongShop{[]int64{0, 1}, number}, wrongShop{[]int64{number, 0, number, 1}, 2})
	}
	return shops
}

func TestAreRoutes(t *testing.T) {
	want(t, "crosswise", impl.AreRoutes([]int64{0, 1, 1, 0}, 2), true)
	want(t, "one step", impl.AreRoutes([]int64{0}, 1), true)
	want(t, "one machine", impl.AreRoutes(repeated[int64](0, impl.MaxJobs), 1), true)
	r := drawer(131)
	for jobs := 1; jobs <= impl.MaxJobs; jobs++ {
		for machines := 1; machines <= impl.MaxMachines; machines++ {
			routes := drawRoutes(r, jobs, machines)
			want(t, "routes", impl.AreRoutes(routes, int64(machines)), true)
			routes[r.IntN(len(routes))] = int64(machines)
			want(t, "routes to a machine too many", impl.AreRoutes(routes, int64(machines)), false)
		}
	}
	for _, s := range wrongRoutes() {
		want(t, "no routes", impl.AreRoutes(s.times, s.machines), false)
	}
}

// turnsByHand gives a job its next step, turn by turn: behind its step before, and behind all that its machine was given.
func turnsByHand(routes, times []int64, machines int, turns []int64) ([]int64, int64) {
	starts := make([]int64, len(times))
	var given []int
	for turn, job := range turns {
		step := int(job) * machines
		for _, before := range turns[:turn] {
			if before == job {
				step++
			}
		}
		for _, other := range given {
			if other/machines == step/machines || routes[other] == routes[step] {
				starts[step] = max(starts[step], starts[other]+times[other])
			}
		}
		given = append(given, step)
	}
	return starts, endByStarts(times, starts)
}

func TestShopStarts(t *testing.T) {
	cases := []struct {
		routes, times []int64
		machines      int64
		turns, starts []int64
		last          int64
	}{
		{[]int64{0, 1, 1, 0}, []int64{2, 1, 1, 2}, 2, []int64{0, 1, 0, 1}, []int64{0, 2, 0, 2}, 4},
		{[]int64{0, 1, 1, 0}, []int64{2, 1, 1, 2}, 2, []int64{0, 0, 1, 1}, []int64{0, 2, 3, 4}, 6},
		{[]int64{0, 1, 1, 0}, []int64{2, 1, 1, 2}, 2, []int64{1, 1, 0, 0}, []int64{3, 5, 0, 1}, 6},
		// A turn does not begin ahead of one that was given before, even where there is room.
		{[]int64{0, 1, 0, 1}, []int64{5, 1, 1, 1}, 2, []int64{0, 0, 1, 1}, []int64{0, 5, 5, 6}, 7},
		{[]int64{1, 0, 0, 1}, []int64{5, 1, 1, 1}, 2, []int64{0, 0, 1, 1}, []int64{0, 5, 6, 7}, 8},
		{[]int64{0, 0, 0}, []int64{3, 1, 2}, 1, []int64{2, 0, 1}, []int64{2, 5, 0}, 6},
		{[]int64{2, 0, 1}, []int64{3, 1, 2}, 3, []int64{0, 0, 0}, []int64{0, 3, 4}, 6},
	}
	for _, c := range cases {
		wantPlan(t, "starts by turns", planOf(impl.ShopStarts(c.routes, c.times, c.machines, c.turns)), c.starts, c.last)
	}
	r := drawer(132)
	for range 200 {
		jobs, machines := 1+r.IntN(impl.MaxJobs), 1+r.IntN(impl.MaxMachines)
		routes, times, turns := drawRoutes(r, jobs, machines), drawList(r, jobs*machines, 1, 9), drawTurns(r, jobs, machines)
		starts, last := turnsByHand(routes, times, machines, turns)
		wantPlan(t, "starts by turns", planOf(impl.ShopStarts(routes, times, int64(machines), turns)), starts, last)
		wantTold(t, "it is a plan", told(impl.IsShopPlan(routes, times, int64(machines), starts)), true)
		bound, ok := impl.ShopBound(routes, times, int64(machines))
		want(t, "no better than the bound", ok && bound <= last, true)
		flow, _ := impl.FlowEnds(times, int64(machines), upwards(jobs))
		_, last, _ = impl.ShopStarts(straight(jobs, machines), times, int64(machines), slices.Sorted(slices.Values(turns)))
		want(t, "turns in ascending order make a flow", last, slices.Max(flow))
	}
}

func TestShopStartsFails(t *testing.T) {
	routes, times := []int64{0, 1, 1, 0}, []int64{2, 1, 1, 2}
	for _, turns := range [][]int64{
		nil, {}, {0, 1, 0}, {0, 1, 0, 1, 0}, {0, 0, 0, 1}, {0, 1, 1, 1}, {1, 1, 1, 0}, {0, 0, 1, 2}, {2, 0, 0, 1}, {-1, 0, 0, 1}, {0, 0, 1, -1},
		{0, 1, 0, 1, 0, 1, 0, 1}, {math.MinInt64, 0, 0, 1}, {0, 0, 1, math.MaxInt64},
	} {
		wantNoPlan(t, "wrong turns", planOf(impl.ShopStarts(routes, times, 2, turns)))
	}
	wantNoPlan(t, "turns by machines", planOf(impl.ShopStarts([]int64{0, 1, 2}, []int64{1, 1, 1}, 3, []int64{0, 1, 2})))
}

func TestIsShopPlan(t *testing.T) {
	routes, times := []int64{0, 1, 1, 0}, []int64{2, 1, 1, 2}
	cases := []struct {
		starts []int64
		isPlan bool
	}{
		{[]int64{0, 2, 0, 2}, true}, {[]int64{0, 3, 0, 4}, true}, {[]int64{999999, 1000000, 0, 2}, false}, {[]int64{999998, 1000000, 0, 2}, true},
		// A step begins before the one before has ended, or a machine has two things to do.
		{[]int64{0, 1, 0, 2}, false}, {[]int64{0, 2, 0, 1}, false}, {[]int64{1, 3, 0, 2}, false}, {[]int64{0, 2, 2, 3}, false}, {[]int64{0, 1, 0, 1}, false},
		// A step stands ahead of the one before, without having anything to do with another one.
		{[]int64{9, 1, 0, 2}, false}, {[]int64{0, 2, 20, 10}, false},
	}
	for _, c := range cases {
		wantTold(t, "plan of a shop", told(impl.IsShopPlan(routes, times, 2, c.starts)), c.isPlan)
	}
	r := drawer(133)
	plans := 0
	for range 4000 {
		jobs, machines := 1+r.IntN(3), 1+r.IntN(2)
		routes, times := drawRoutes(r, jobs, machines), drawList(r, jobs*machines, 1, 3)
		starts := drawList(r, jobs*machines, 0, 1+int64(4*jobs*machines))
		isPlan := isPlanByHand(routes, times, machines, starts) && followsByHand(times, machines, starts)
		wantTold(t, "plan of a shop", told(impl.IsShopPlan(routes, times, int64(machines), starts)), isPlan)
		if isPlan {
			plans++
		}
	}
	want(t, "both happen", plans > 400 && plans < 3600, true)
	for _, starts := range [][]int64{nil, {}, {0, 2, 0}, {0, 2, 0, 2, 9}, {-1, 2, 0, 2}, {0, 2, 0, 1000001}, {math.MinInt64, 2, 0, 2}, {0, 2, 0, math.MaxInt64}} {
		wantNotTold(t, "wrong starts", told(impl.IsShopPlan(routes, times, 2, starts)))
	}
}

func TestShopBound(t *testing.T) {
	wantTold(t, "crosswise", told(impl.ShopBound([]int64{0, 1, 1, 0}, []int64{2, 1, 1, 2}, 2)), 4)
	// Times stand for the steps of routes, not for machines.
	wantTold(t, "one machine for both long steps", told(impl.ShopBound([]int64{0, 1, 1, 0}, []int64{5, 1, 1, 5}, 2)), 10)
	wantTold(t, "two machines for them", told(impl.ShopBound([]int64{0, 1, 0, 1}, []int64{5, 1, 1, 5}, 2)), 6)
	wantTold(t, "a long job", told(impl.ShopBound([]int64{0, 1, 1, 0}, []int64{5, 6, 1, 1}, 2)), 11)
	r := drawer(134)
	for range 200 {
		jobs, machines := 1+r.IntN(impl.MaxJobs), 1+r.IntN(impl.MaxMachines)
		routes, times := drawRoutes(r, jobs, machines), drawList(r, jobs*machines, 1, 9)
		wantTold(t, "bound", told(impl.ShopBound(routes, times, int64(machines))), loadsByHand(routes, times, machines))
	}
}

// allTurns returns all turns of some jobs, the least ones first.
func allTurns(jobs, machines int) [][]int64 {
	all := [][]int64{nil}
	for range jobs * machines {
		var longer [][]int64
		for _, turns := range all {
			for next := range int64(jobs) {
				more := append(slices.Clone(turns), next)
				taken := len(more) - len(slices.DeleteFunc(slices.Clone(more), func(job int64) bool { return job == next }))
				if taken <= machines {
					longer = append(longer, more)
				}
			}
		}
		all = longer
	}
	return all
}

// bestShopByHand returns the first turns with the least last end, and this, after a look at all of them.
func bestShopByHand(routes, times []int64, machines int) ([]int64, int64) {
	var best []int64
	least := int64(math.MaxInt64)
	for _, turns := range allTurns(len(times)/machines, machines) {
		if _, last := turnsByHand(routes, times, machines, turns); last < least {
			best, least = turns, last
		}
	}
	return best, least
}

func TestBestShop(t *testing.T) {
	wantPlan(t, "crosswise", planOf(impl.BestShop([]int64{0, 1, 1, 0}, []int64{2, 1, 1, 2}, 2)), []int64{0, 1, 0, 1}, 4)
	wantPlan(t, "one step", planOf(impl.BestShop([]int64{0}, []int64{impl.MaxTime}, 1)), []int64{0}, impl.MaxTime)
	// Of turns that are equally good, the first ones are returned.
	wantPlan(t, "eight jobs", planOf(impl.BestShop(repeated[int64](0, 8), []int64{8, 7, 6, 5, 4, 3, 2, 1}, 1)), upwards(8), 36)
	wantPlan(t, "eight machines", planOf(impl.BestShop(upwards(8), repeated[int64](1, 8), 8)), repeated[int64](0, 8), 8)
	r := drawer(135)
	for _, shape := range [][2]int{{1, 1}, {2, 1}, {5, 1}, {6, 1}, {1, 2}, {2, 2}, {3, 2}, {4, 2}, {1, 3}, {2, 3}, {1, 4}, {2, 4}, {1, 8}} {
		jobs, machines := shape[0], shape[1]
		for range 6 {
			routes, times := drawRoutes(r, jobs, machines), drawList(r, jobs*machines, 1, 1+r.Int64N(6))
			turns, last := bestShopByHand(routes, times, machines)
			wantPlan(t, "best turns", planOf(impl.BestShop(routes, times, int64(machines))), turns, last)
		}
	}
	for _, shape := range [][2]int{{9, 1}, {5, 2}, {3, 3}, {2, 5}, {2, 8}, {24, 8}} {
		jobs, machines := shape[0], shape[1]
		wantNoPlan(t, "more than eight steps", planOf(impl.BestShop(straight(jobs, machines), repeated[int64](1, jobs*machines), int64(machines))))
	}
}

// TestBestShopIsNoWorse checks that best turns are no worse than others, and no better than their bounds.
func TestBestShopIsNoWorse(t *testing.T) {
	r := drawer(136)
	for range 100 {
		shape := [][2]int{{2, 2}, {3, 2}, {4, 2}, {2, 3}, {2, 4}, {4, 1}}[r.IntN(6)]
		jobs, machines := shape[0], int64(shape[1])
		routes, times := drawRoutes(r, shape[0], shape[1]), drawList(r, shape[0]*shape[1], 1, 20)
		turns, least, ok := impl.BestShop(routes, times, machines)
		want(t, "succeeds", ok, true)
		starts, last, ok := impl.ShopStarts(routes, times, machines, turns)
		want(t, "last end of the best turns", ok && last == least, true)
		wantTold(t, "it is a plan", told(impl.IsShopPlan(routes, times, machines, starts)), true)
		bound, _ := impl.ShopBound(routes, times, machines)
		want(t, "no better than the bound", bound <= least, true)
		_, last, _ = impl.ShopStarts(routes, times, machines, drawTurns(r, shape[0], shape[1]))
		want(t, "no worse than other turns", least <= last, true)
		// An open shop can do what one with routes can, and a shop with straight routes what a flow can.
		open, _ := impl.OpenBound(times, machines)
		_, flow, _ := impl.BestFlow(times, machines)
		_, along, _ := impl.BestShop(straight(jobs, int(machines)), times, machines)
		want(t, "no worse than the best flow", open <= along && along <= flow, true)
	}
}

// TestNoShopPlanIsBetter looks at all starts by which two jobs on two machines could end earlier.
func TestNoShopPlanIsBetter(t *testing.T) {
	r := drawer(137)
	for range 25 {
		routes, times := drawRoutes(r, 2, 2), drawList(r, 4, 1, 2)
		_, least, _ := impl.BestShop(routes, times, 2)
		for code := range least * least * least * least {
			starts := []int64{code % least, code / least % least, code / least / least % least, code / least / least / least}
			if isPlan, _ := impl.IsShopPlan(routes, times, 2, starts); isPlan && endByStarts(times, starts) < least {
				t.Fatalf("%v %v: %v is better than %v", routes, times, starts, least)
			}
		}
	}
}

func TestShopsFail(t *testing.T) {
	fails := func(what string, routes, times []int64, machines int64) {
		t.Helper()
		turns := slices.Clone(routes)
		for step := range turns {
			turns[step] = int64(step) / max(1, machines)
		}
		wantNoPlan(t, what, planOf(impl.ShopStarts(routes, times, machines, turns)))
		starts := make([]int64, len(times))
		for step := range starts {
			starts[step] = int64(step) * impl.MaxTime
		}
		wantNotTold(t, what, told(impl.IsShopPlan(routes, times, machines, starts)))
		wantNotTold(t, what, told(impl.ShopBound(routes, times, machines)))
		wantNoPlan(t, what, planOf(impl.BestShop(routes, times, machines)))
	}
	for _, s := range wrongRoutes() {
		fails("wrong routes", s.times, repeated[int64](1, len(s.times)), s.machines)
	}
	for _, s := range wrongShops() {
		jobs := len(s.orderFor())
		if s.machines >= 1 && s.machines <= impl.MaxMachines {
			fails("wrong times", straight(jobs, int(s.machines)), s.times, s.machines)
		}
	}
	for _, times := range [][]int64{nil, {1, 1}, {1, 1, 1}, {1, 1, 1, 1, 1}, {1, 1, 1, 1, 1, 1}} {
		fails("more, or fewer, times than routes", []int64{0, 1, 1, 0}, times, 2)
	}
}
