package tests

import (
	"math"
	"slices"
	"testing"

	"loop.example/g01389/impl"
)

// ready returns jobs with Releases of 0.
func ready(jobs []impl.Job) []impl.Job {
	list := slices.Clone(jobs)
	for i := range list {
		list[i].Release = 0
	}
	return list
}

// TestMachinesExample checks the examples at the end of chapter 2.
func TestMachinesExample(t *testing.T) {
	jobs := []impl.Job{{Time: 2, Weight: 1}, {Time: 1, Weight: 1}}
	wantPlan(t, "weighed ends", planOf(impl.BestOrder(jobs, 1)), []int64{1, 0}, 4)
	times := []int64{3, 3, 2, 2, 2}
	_, longest, ok := impl.LongestFirst(times, 2)
	want(t, "the longest first", ok && longest == 7, true)
	_, least, ok := impl.LeastLast(times, 2)
	want(t, "at best", ok && least == 6, true)
	cost, ok := impl.ChangeCost([]int64{0, 1}, []int64{5, 1, 2, 9})
	want(t, "changes", ok && cost == 6, true)
}

func TestBestOrder(t *testing.T) {
	r := drawer(4)
	for range 60 {
		n := 1 + r.IntN(6)
		jobs := drawJobs(r, n, 1)
		for kind := range int64(kindsOfCosts) {
			order, least := bestByHand(n, func(order []int64) int64 { return costByHand(jobs, order, kind) })
			wantPlan(t, "best order", planOf(impl.BestOrder(jobs, kind)), order, least)
		}
	}
}

func TestBestOrderOfEqualJobs(t *testing.T) {
	equal := repeated(impl.Job{Time: 3, Due: 11, Weight: 2}, impl.MaxSearch)
	for kind, least := range []int64{30, 2 * 165, 19, 2 * (1 + 4 + 7 + 10 + 13 + 16 + 19), 7} {
		wantPlan(t, "best order of equal jobs", planOf(impl.BestOrder(equal, int64(kind))), upwards(impl.MaxSearch), least)
	}
	// All are early, so that the greatest lateness is less than 0.
	early := []impl.Job{{Time: 1, Due: 20}, {Time: 1, Due: 30}, {Time: 1, Due: 10}}
	wantPlan(t, "early jobs", planOf(impl.BestOrder(early, 2)), []int64{2, 0, 1}, -9)
	wantPlan(t, "one job", planOf(impl.BestOrder([]impl.Job{{Time: impl.MaxTime, Weight: impl.MaxTime}}, 1)), []int64{0}, impl.MaxTime*impl.MaxTime)
}

func TestBestReleased(t *testing.T) {
	r := drawer(5)
	for range 60 {
		n := 1 + r.IntN(6)
		jobs := drawJobs(r, n, 8)
		for kind := range int64(kindsOfCosts) {
			order, least := bestByHand(n, func(order []int64) int64 { return costByHand(jobs, order, kind) })
			wantPlan(t, "best order", planOf(impl.BestReleased(jobs, kind)), order, least)
			wantPlan(t, "best order without releases", planOf(impl.BestReleased(ready(jobs), kind)), planOf(impl.BestOrder(ready(jobs), kind)).list, planOf(impl.BestOrder(ready(jobs), kind)).number)
		}
	}
	// To wait for a job is better here than to begin at once.
	wait := []impl.Job{{Time: 9, Weight: 1}, {Time: 1, Release: 1, Weight: 9}}
	wantPlan(t, "waiting", planOf(impl.BestReleased(wait, 1)), []int64{1, 0}, 9*2+11)
	equal := repeated(impl.Job{Time: 2, Release: 3, Due: 6, Weight: 1}, 6)
	for kind := range int64(kindsOfCosts) {
		wantPlan(t, "equal jobs", planOf(impl.BestReleased(equal, kind)), upwards(6), costByHand(equal, upwards(6), kind))
	}
}

func TestBestOrdersFail(t *testing.T) {
	good := []impl.Job{{Time: 2, Due: 2, Weight: 1}, {Time: 1, Due: 2, Weight: 1}}
	released := []impl.Job{good[0], {Time: 1, Release: 1}}
	for kind := range int64(kindsOfCosts) {
		wantNoPlan(t, "a release", planOf(impl.BestOrder(released, kind)))
		wantNoPlan(t, "too many jobs", planOf(impl.BestOrder(repeated(good[0], impl.MaxSearch+1), kind)))
		wantNoPlan(t, "too many released jobs", planOf(impl.BestReleased(repeated(good[0], 7), kind)))
		for _, jobs := range badJobs() {
			wantNoPlan(t, "wrong jobs", planOf(impl.BestOrder(jobs, kind)))
			wantNoPlan(t, "wrong released jobs", planOf(impl.BestReleased(jobs, kind)))
		}
	}
	for _, kind := range []int64{-1, kindsOfCosts, math.MinInt64, math.MaxInt64} {
		wantNoPlan(t, "a wrong kind", planOf(impl.BestOrder(good, kind)))
		wantNoPlan(t, "a wrong kind", planOf(impl.BestReleased(good, kind)))
	}
}

// isBest reports whether the order by a rule costs as much as the best order, and no other one costs less.
func isBest(t *testing.T, what string, jobs []impl.Job, rule, kind int64) {
	t.Helper()
	order, ok := impl.OrderBy(jobs, rule)
	want(t, what+" has an order", ok, true)
	cost, _ := impl.CostOf(jobs, order, kind)
	_, least := bestByHand(len(jobs), func(order []int64) int64 { return costByHand(jobs, order, kind) })
	want(t, what, cost, least)
	if _, exact, ok := impl.BestReleased(jobs, kind); ok {
		want(t, what+" as the exact plan", exact, cost)
	}
}

// TestRulesAreBest checks which costs are least by which rules.
func TestRulesAreBest(t *testing.T) {
	r := drawer(6)
	for range 80 {
		jobs := drawJobs(r, 1+r.IntN(6), 8)
		isBest(t, "last end by releases", jobs, 2, 0)
		isBest(t, "weighed ends by quotients", ready(jobs), 3, 1)
		isBest(t, "lateness by dues", ready(jobs), 1, 2)
		alike := ready(jobs)
		for i := range alike {
			alike[i].Weight = 3
		}
		isBest(t, "ends by times", alike, 0, 1)
	}
}

// TestNoSwapGains checks the same for more jobs than can be searched: no two neighbours should change places.
func TestNoSwapGains(t *testing.T) {
	r := drawer(7)
	for range 60 {
		n := 2 + r.IntN(impl.MaxJobs-1)
		jobs := drawJobs(r, n, 1)
		for _, c := range []struct{ rule, kind int64 }{{3, 1}, {1, 2}} {
			order, _ := impl.OrderBy(jobs, c.rule)
			for at := range n - 1 {
				gain, ok := impl.SwapGain(jobs, order, int64(at), c.kind)
				want(t, "a swap gains nothing", ok && gain <= 0, true)
			}
		}
	}
}

// TestExactOrdersAreNoWorse checks that exact orders cost no more than any drawn ones, and those by rules.
func TestExactOrdersAreNoWorse(t *testing.T) {
	r := drawer(8)
	for range 12 {
		jobs := drawJobs(r, impl.MaxSearch, 1)
		for kind := range int64(kindsOfCosts) {
			best, least, ok := impl.BestOrder(jobs, kind)
			want(t, "succeeds", ok, true)
			want(t, "cost of the best order", costByHand(jobs, best, kind), least)
			for rule := range int64(4) {
				order, _ := impl.OrderBy(jobs, rule)
				want(t, "an order by a rule costs no less", costByHand(jobs, order, kind) >= least, true)
			}
			for range 50 {
				order := drawOrder(r, impl.MaxSearch)
				cost := costByHand(jobs, order, kind)
				want(t, "another order costs no less", cost > least || cost == least && slices.Compare(best, order) <= 0, true)
			}
		}
	}
}

func TestFewestLate(t *testing.T) {
	cases := []struct {
		jobs []impl.Job
		kept []int64
		late int64
	}{
		{[]impl.Job{{Time: 2, Due: 2}, {Time: 1, Due: 2}}, []int64{1}, 1},
		// Equal jobs are taken out from the first one on.
		{repeated(impl.Job{Time: 2, Due: 2}, 3), []int64{2}, 2},
		{repeated(impl.Job{Time: 2, Due: 5}, 4), []int64{2, 3}, 2},
		// The first one in the order by Dues, not by indices, is taken out.
		{[]impl.Job{{Time: 3, Due: 5}, {Time: 3, Due: 4}}, []int64{0}, 1},
		{[]impl.Job{{Time: 3, Due: 5}, {Time: 1, Due: 5}, {Time: 3, Due: 4}}, []int64{0, 1}, 1},
		// None can be on time, or all.
		{repeated(impl.Job{Time: 1}, impl.MaxJobs), nil, impl.MaxJobs},
		{repeated(impl.Job{Time: 1, Due: impl.MaxJobs}, impl.MaxJobs), upwards(impl.MaxJobs), 0},
		{repeated(impl.Job{Time: 1, Due: impl.MaxJobs - 1}, impl.MaxJobs), upwards(impl.MaxJobs)[1:], 1},
		// They come in the order by Dues.
		{[]impl.Job{{Time: 1, Due: 9}, {Time: 1, Due: 3}, {Time: 7, Due: 8}, {Time: 1, Due: 3}}, []int64{1, 3, 0}, 1},
		{[]impl.Job{{Time: 4, Due: 4}}, []int64{0}, 0},
		{[]impl.Job{{Time: 4, Due: 3}}, nil, 1},
	}
	for _, c := range cases {
		wantPlan(t, "jobs on time", planOf(impl.FewestLate(c.jobs)), c.kept, c.late)
	}
	wantNoPlan(t, "a release", planOf(impl.FewestLate([]impl.Job{{Time: 1, Due: 5}, {Time: 1, Release: 1, Due: 5}})))
	for _, jobs := range badJobs() {
		wantNoPlan(t, "wrong jobs", planOf(impl.FewestLate(jobs)))
	}
}

// TestFewestLateIsBest checks that no order has fewer late jobs, and that those kept are on time.
func TestFewestLateIsBest(t *testing.T) {
	r := drawer(9)
	for range 150 {
		n := 1 + r.IntN(impl.MaxJobs)
		jobs := drawJobs(r, n, 1)
		kept, late, ok := impl.FewestLate(jobs)
		want(t, "succeeds", ok && len(kept)+int(late) == n, true)
		order := slices.Clone(kept)
		for job := range int64(n) {
			if !slices.Contains(kept, job) {
				order = append(order, job)
			}
		}
		want(t, "those kept are on time", costByHand(jobs, order, 4), late)
		byDues := slices.IsSortedFunc(kept, func(a, b int64) int {
			if jobs[a].Due != jobs[b].Due {
				return int(jobs[a].Due - jobs[b].Due)
			}
			return int(a - b)
		})
		want(t, "those kept are in the order by Dues", byDues, true)
		if n <= impl.MaxSearch {
			_, least, _ := impl.BestOrder(jobs, 4)
			want(t, "as few as at best", late, least)
		}
	}
}
