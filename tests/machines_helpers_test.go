package tests

import (
	"math"
	"math/rand/v2"
	"slices"
	"testing"

	"loop.example/g01389/impl"
)

// kindsOfCosts is how many kinds of costs there are.
const kindsOfCosts = 5

// TestLimitsOfMachines checks the limits that chapter 2 names.
func TestLimitsOfMachines(t *testing.T) {
	want(t, "MaxJobs", impl.MaxJobs, 24)
	want(t, "MaxMachines", impl.MaxMachines, 8)
	want(t, "MaxSearch", impl.MaxSearch, 10)
	want(t, "MaxTime", impl.MaxTime, 10000)
	want(t, "MaxWorkers", impl.MaxWorkers, 8)
}

// drawer returns a source of numbers that are the same in each run.
func drawer(seed uint64) *rand.Rand { return rand.New(rand.NewPCG(seed, 2)) }

// drawJobs returns n jobs with small numbers, so that there are many equal ones; releases are less than the given number.
func drawJobs(r *rand.Rand, n int, releases int64) []impl.Job {
	jobs := make([]impl.Job, n)
	for i := range jobs {
		jobs[i] = impl.Job{Time: 1 + r.Int64N(4), Release: r.Int64N(releases), Due: r.Int64N(3 * int64(n)), Weight: r.Int64N(4)}
	}
	return jobs
}

// drawList returns n numbers from low to high.
func drawList(r *rand.Rand, n int, low, high int64) []int64 {
	list := make([]int64, n)
	for i := range list {
		list[i] = low + r.Int64N(high-low+1)
	}
	return list
}

// pickers return functions that pick one of some numbers, and a list of n of them.
func pickers(r *rand.Rand, numbers []int64) (one func() int64, many func(n int) []int64) {
	one = func() int64 { return numbers[r.IntN(len(numbers))] }
	many = func(n int) []int64 {
		list := make([]int64, n)
		for i := range list {
			list[i] = one()
		}
		return list
	}
	return one, many
}

// drawOrder returns an order of n.
func drawOrder(r *rand.Rand, n int) []int64 {
	order := make([]int64, n)
	for i, job := range r.Perm(n) {
		order[i] = int64(job)
	}
	return order
}

// upwards returns the numbers from 0 to n - 1.
func upwards(n int) []int64 {
	list := make([]int64, n)
	for i := range list {
		list[i] = int64(i)
	}
	return list
}

// allOrders returns all orders of n, the least one first.
func allOrders(n int) [][]int64 {
	orders := [][]int64{nil}
	for range n {
		var longer [][]int64
		for _, order := range orders {
			for next := range int64(n) {
				if !slices.Contains(order, next) {
					longer = append(longer, append(slices.Clone(order), next))
				}
			}
		}
		orders = longer
	}
	return orders
}

// costByHand carries out an order job by job.
func costByHand(jobs []impl.Job, order []int64, kind int64) int64 {
	var now, weighed, delays, late int64
	lateness := int64(math.MinInt64)
	for _, i := range order {
		job := jobs[i]
		if now < job.Release {
			now = job.Release
		}
		now += job.Time
		weighed += now * job.Weight
		if now-job.Due > lateness {
			lateness = now - job.Due
		}
		if now > job.Due {
			delays += (now - job.Due) * job.Weight
			late++
		}
	}
	return []int64{now, weighed, lateness, delays, late}[kind]
}

// bestByHand returns the first order with the least cost, and this, after a look at all of them.
func bestByHand(n int, cost func(order []int64) int64) ([]int64, int64) {
	var best []int64
	var least int64
	for _, order := range allOrders(n) {
		if c := cost(order); best == nil || c < least {
			best, least = order, c
		}
	}
	return best, least
}

// wantList fails if two lists differ.
func wantList(t *testing.T, what string, got, wanted []int64) {
	t.Helper()
	if !slices.Equal(got, wanted) {
		t.Errorf("%s: got %v, want %v", what, got, wanted)
	}
}

// A plan is what many functions return: a list, a number, and whether they succeed.
type plan struct {
	list   []int64
	number int64
	ok     bool
}

// planOf takes what such a function returns.
func planOf(list []int64, number int64, ok bool) plan { return plan{list, number, ok} }

// wantPlan fails if a function has failed, or has returned something else.
func wantPlan(t *testing.T, what string, got plan, list []int64, number int64) {
	t.Helper()
	if !got.ok || got.number != number || !slices.Equal(got.list, list) {
		t.Errorf("%s: got %v, want %v %v", what, got, list, number)
	}
}

// wantNoPlan fails if a function has not failed, or has returned something else than zero values.
func wantNoPlan(t *testing.T, what string, got plan) {
	t.Helper()
	if got.ok || got.number != 0 || len(got.list) != 0 {
		t.Errorf("%s: got %v, want a failure", what, got)
	}
}

// badJobs returns lists that are not jobs, each of which has one number that is wrong by 1, or one job too many.
func badJobs() [][]impl.Job {
	good := impl.Job{Time: 1}
	lists := [][]impl.Job{nil, {}, repeated(good, impl.MaxJobs+1)}
	for _, bad := range []impl.Job{
		{Time: 0}, {Time: -1}, {Time: impl.MaxTime + 1}, {Time: math.MinInt64}, {Time: math.MaxInt64},
		{Time: 1, Release: -1}, {Time: 1, Release: impl.MaxTime + 1},
		{Time: 1, Due: -1}, {Time: 1, Due: impl.MaxTime + 1},
		{Time: 1, Weight: -1}, {Time: 1, Weight: impl.MaxTime + 1},
	} {
		lists = append(lists, []impl.Job{bad}, []impl.Job{good, bad})
	}
	return lists
}

// badOrders returns lists that are no orders of n, which is at least 2.
func badOrders(n int) [][]int64 {
	twice, less, more := upwards(n), upwards(n), upwards(n)
	twice[n-1], less[0], more[n-1] = 0, -1, int64(n)
	return [][]int64{nil, upwards(n - 1), upwards(n + 1), twice, less, more}
}
