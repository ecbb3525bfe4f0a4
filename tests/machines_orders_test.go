package tests

import (
	"math"
	"slices"
	"testing"

	"loop.example/g01389/impl"
)

func TestAreJobs(t *testing.T) {
	least, most := impl.Job{Time: 1}, impl.Job{Time: impl.MaxTime, Release: impl.MaxTime, Due: impl.MaxTime, Weight: impl.MaxTime}
	for _, jobs := range [][]impl.Job{{least}, {most}, {least, most}, repeated(most, impl.MaxJobs)} {
		want(t, "jobs", impl.AreJobs(jobs), true)
	}
	for _, jobs := range badJobs() {
		want(t, "no jobs", impl.AreJobs(jobs), false)
	}
}

func TestSameJobs(t *testing.T) {
	a := []impl.Job{{Time: 1, Release: 2, Due: 3, Weight: 4}, {Time: 5}}
	want(t, "equal jobs", impl.SameJobs(a, slices.Clone(a)), true)
	want(t, "nil and an empty list", impl.SameJobs(nil, []impl.Job{}), true)
	want(t, "fewer jobs", impl.SameJobs(a, a[:1]), false)
	want(t, "more jobs", impl.SameJobs(nil, a), false)
	want(t, "another order", impl.SameJobs(a, []impl.Job{a[1], a[0]}), false)
	for _, other := range []impl.Job{{Time: 2, Release: 2, Due: 3, Weight: 4}, {Time: 1, Due: 3, Weight: 4}, {Time: 1, Release: 2, Weight: 4}, {Time: 1, Release: 2, Due: 3}} {
		want(t, "one other integer", impl.SameJobs(a, []impl.Job{other, a[1]}), false)
	}
	for _, jobs := range badJobs() {
		want(t, "equal lists that are not valid", impl.SameJobs(jobs, slices.Clone(jobs)), true)
	}
	want(t, "lists that are not valid", impl.SameJobs([]impl.Job{{Time: -1}}, []impl.Job{{Time: -2}}), false)
	long := repeated(impl.Job{}, impl.MaxJobs+1)
	want(t, "lists that are too long", impl.SameJobs(long, slices.Clone(long)), true)
}

func TestIsOrder(t *testing.T) {
	for n := 1; n <= impl.MaxJobs; n++ {
		order := upwards(n)
		want(t, "ascending numbers", impl.IsOrder(order, int64(n)), true)
		slices.Reverse(order)
		want(t, "descending numbers", impl.IsOrder(order, int64(n)), true)
		want(t, "an order of fewer", impl.IsOrder(order, int64(n)-1), false)
		want(t, "an order of more", impl.IsOrder(order, int64(n)+1), false)
	}
	for _, order := range badOrders(3) {
		want(t, "no order", impl.IsOrder(order, 3), false)
	}
	want(t, "an order of none", impl.IsOrder(nil, 0), false)
	want(t, "an order of too many", impl.IsOrder(upwards(impl.MaxJobs+1), impl.MaxJobs+1), false)
	for _, n := range []int64{-1, math.MinInt64, math.MaxInt64} {
		want(t, "an order of a wrong number", impl.IsOrder([]int64{0}, n), false)
	}
	want(t, "great numbers", impl.IsOrder([]int64{0, math.MaxInt64}, 2), false)
	want(t, "negative numbers", impl.IsOrder([]int64{0, math.MinInt64}, 2), false)
}

func TestEndsOf(t *testing.T) {
	cases := []struct {
		jobs  []impl.Job
		order []int64
		ends  []int64
	}{
		{[]impl.Job{{Time: 2}, {Time: 1}}, []int64{0, 1}, []int64{2, 3}},
		{[]impl.Job{{Time: 2}, {Time: 1}}, []int64{1, 0}, []int64{3, 1}},
		{[]impl.Job{{Time: 2, Release: 3}, {Time: 1}}, []int64{0, 1}, []int64{5, 6}},
		{[]impl.Job{{Time: 2, Release: 3}, {Time: 1}}, []int64{1, 0}, []int64{5, 1}},
		// A job is released just when the one before ends.
		{[]impl.Job{{Time: 2, Release: 1}, {Time: 1}}, []int64{1, 0}, []int64{3, 1}},
		{[]impl.Job{{Time: 1, Release: 9}, {Time: 1, Release: 4}, {Time: 3, Release: 11}}, []int64{0, 1, 2}, []int64{10, 11, 14}},
		{repeated(impl.Job{Time: 3}, 4), []int64{2, 0, 3, 1}, []int64{6, 12, 3, 9}},
		{[]impl.Job{{Time: impl.MaxTime, Release: impl.MaxTime}}, []int64{0}, []int64{2 * impl.MaxTime}},
	}
	for _, c := range cases {
		ends, ok := impl.EndsOf(c.jobs, c.order)
		want(t, "succeeds", ok, true)
		wantList(t, "ends", ends, c.ends)
	}
	most := repeated(impl.Job{Time: impl.MaxTime, Release: impl.MaxTime}, impl.MaxJobs)
	ends, ok := impl.EndsOf(most, upwards(impl.MaxJobs))
	want(t, "the greatest end", ok && ends[impl.MaxJobs-1] == (impl.MaxJobs+1)*impl.MaxTime, true)
}

func TestCostOf(t *testing.T) {
	jobs := []impl.Job{{Time: 2, Release: 3, Due: 4, Weight: 2}, {Time: 1, Due: 9, Weight: 1}, {Time: 4, Due: 7, Weight: 3}}
	cases := []struct {
		order []int64
		costs []int64
	}{
		{[]int64{0, 1, 2}, []int64{10, 46, 3, 2 + 9, 2}},
		{[]int64{1, 2, 0}, []int64{7, 1 + 15 + 14, 3, 6, 1}},
		{[]int64{2, 0, 1}, []int64{7, 12 + 12 + 7, 2, 4, 1}},
	}
	for _, c := range cases {
		for kind, cost := range c.costs {
			got, ok := impl.CostOf(jobs, c.order, int64(kind))
			want(t, "succeeds", ok, true)
			want(t, "cost", got, cost)
		}
	}
	// A job that ends when it is due is not late; the greatest lateness is less than 0 if all are early.
	early := []impl.Job{{Time: 2, Due: 2, Weight: 5}, {Time: 3, Due: 8, Weight: 5}}
	for kind, cost := range []int64{5, 35, 0, 0, 0} {
		got, _ := impl.CostOf(early, []int64{0, 1}, int64(kind))
		want(t, "cost of early jobs", got, cost)
	}
	negative, ok := impl.CostOf([]impl.Job{{Time: 1, Due: 9}}, []int64{0}, 2)
	want(t, "lateness less than 0", ok && negative == -8, true)
	r := drawer(1)
	for range 300 {
		n := 1 + r.IntN(impl.MaxJobs)
		jobs, order := drawJobs(r, n, 9), drawOrder(r, n)
		for kind := range int64(kindsOfCosts) {
			got, _ := impl.CostOf(jobs, order, kind)
			want(t, "cost by hand", got, costByHand(jobs, order, kind))
		}
	}
}

func TestOrderBy(t *testing.T) {
	jobs := []impl.Job{
		{Time: 4, Release: 1, Due: 9, Weight: 2},
		{Time: 2, Release: 0, Due: 9, Weight: 1},
		{Time: 4, Release: 0, Due: 5, Weight: 0},
		{Time: 1, Release: 1, Due: 5, Weight: 3},
		{Time: 2, Release: 2, Due: 0, Weight: 0},
	}
	for rule, order := range [][]int64{{3, 1, 4, 0, 2}, {4, 2, 3, 0, 1}, {1, 2, 0, 3, 4}, {3, 0, 1, 2, 4}} {
		got, ok := impl.OrderBy(jobs, int64(rule))
		want(t, "succeeds", ok, true)
		wantList(t, "order by a rule", got, order)
	}
	equal := repeated(impl.Job{Time: 3, Release: 2, Due: 5, Weight: 2}, impl.MaxJobs)
	for rule := range int64(4) {
		got, _ := impl.OrderBy(equal, rule)
		wantList(t, "order of equal jobs", got, upwards(impl.MaxJobs))
	}
	// As fractions, these are told apart, and 32-bit numbers would not do it.
	close := []impl.Job{{Time: 10000, Weight: 9998}, {Time: 9999, Weight: 9998}, {Time: 10000, Weight: 9999}, {Time: 5000, Weight: 4999}}
	got, _ := impl.OrderBy(close, 3)
	wantList(t, "order of fractions", got, []int64{2, 1, 0, 3})
}

func TestSwapGain(t *testing.T) {
	jobs := []impl.Job{{Time: 2, Due: 2, Weight: 1}, {Time: 1, Due: 2, Weight: 1}, {Time: 5, Due: 1, Weight: 9}}
	order := []int64{0, 1, 2}
	gain, ok := impl.SwapGain(jobs, order, 0, 1)
	want(t, "gain", ok && gain == 1, true)
	gain, ok = impl.SwapGain(jobs, []int64{1, 0, 2}, 0, 1)
	want(t, "loss", ok && gain == -1, true)
	gain, ok = impl.SwapGain(jobs, order, 1, 1)
	want(t, "gain at the last place", ok && gain == 9*1-1*5, true)
	for _, at := range []int64{-1, 2, 3, math.MinInt64, math.MaxInt64} {
		gain, ok = impl.SwapGain(jobs, order, at, 1)
		wantFailure(t, "a wrong place", gain, ok)
	}
	gain, ok = impl.SwapGain(jobs[:1], []int64{0}, 0, 0)
	wantFailure(t, "one job", gain, ok)
	equal := repeated(impl.Job{Time: 2, Due: 3, Weight: 4}, 5)
	for kind := range int64(kindsOfCosts) {
		gain, ok = impl.SwapGain(equal, drawOrder(drawer(3), 5), 2, kind)
		want(t, "equal jobs", ok && gain == 0, true)
	}
	r := drawer(2)
	for range 300 {
		n := 2 + r.IntN(impl.MaxJobs-1)
		jobs, order, at := drawJobs(r, n, 9), drawOrder(r, n), r.IntN(n-1)
		other := slices.Concat(order[:at], []int64{order[at+1], order[at]}, order[at+2:])
		for kind := range int64(kindsOfCosts) {
			gain, _ := impl.SwapGain(jobs, order, int64(at), kind)
			want(t, "gain by hand", gain, costByHand(jobs, order, kind)-costByHand(jobs, other, kind))
		}
	}
}

// TestOrdersFail calls the functions of orders with arguments that are not valid.
func TestOrdersFail(t *testing.T) {
	good := []impl.Job{{Time: 2}, {Time: 1}}
	fails := func(what string, jobs []impl.Job, order []int64, kind int64) {
		cost, ok := impl.CostOf(jobs, order, kind)
		wantFailure(t, what, cost, ok)
		gain, ok := impl.SwapGain(jobs, order, 0, kind)
		wantFailure(t, what, gain, ok)
	}
	for _, kind := range []int64{-1, kindsOfCosts, math.MinInt64, math.MaxInt64} {
		fails("a wrong kind", good, []int64{0, 1}, kind)
	}
	for _, order := range badOrders(2) {
		fails("a wrong order", good, order, 0)
		ends, ok := impl.EndsOf(good, order)
		wantListFailure(t, "ends of a wrong order", ends, ok)
		mean, ok := impl.MeanFlow(good, order)
		wantFailure(t, "mean of a wrong order", mean, ok)
	}
	for _, jobs := range badJobs() {
		order := upwards(len(jobs))
		fails("wrong jobs", jobs, order, 0)
		ends, ok := impl.EndsOf(jobs, order)
		wantListFailure(t, "ends of wrong jobs", ends, ok)
		byRule, ok := impl.OrderBy(jobs, 0)
		wantListFailure(t, "order of wrong jobs", byRule, ok)
		mean, ok := impl.MeanFlow(jobs, order)
		wantFailure(t, "mean of wrong jobs", mean, ok)
	}
	for _, rule := range []int64{-1, 4, math.MinInt64, math.MaxInt64} {
		order, ok := impl.OrderBy(good, rule)
		wantListFailure(t, "a wrong rule", order, ok)
	}
}

func TestMeanFlow(t *testing.T) {
	cases := []struct {
		jobs  []impl.Job
		order []int64
		mean  uint32
	}{
		{[]impl.Job{{Time: 2, Release: 3, Due: 4, Weight: 2}, {Time: 1, Due: 9, Weight: 1}}, []int64{0, 1}, 0x40800000},
		{[]impl.Job{{Time: 2, Release: 3}, {Time: 1}}, []int64{1, 0}, 0x3fc00000},
		// 10 / 3 is rounded once, to the nearest 32-bit number.
		{[]impl.Job{{Time: 1}, {Time: 2}, {Time: 3}}, []int64{0, 1, 2}, 0x40555555},
		{repeated(impl.Job{Time: impl.MaxTime}, impl.MaxJobs), upwards(impl.MaxJobs), 0x47f42400},
		{[]impl.Job{{Time: 1, Release: impl.MaxTime}}, []int64{0}, oneBits},
	}
	for _, c := range cases {
		mean, ok := impl.MeanFlow(c.jobs, c.order)
		want(t, "succeeds", ok, true)
		wantBits(t, "mean", mean, c.mean)
	}
}
