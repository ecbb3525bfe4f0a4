package tests

import (
	"fmt"
	"math"
	"math/rand/v2"
	"slices"
	"testing"

	"loop.example/g01389/impl"
)

// TestLimitsOfShops checks the limits that chapter 4 names.
func TestLimitsOfShops(t *testing.T) {
	want(t, "MaxStations", impl.MaxStations, 12)
	want(t, "MaxModels", impl.MaxModels, 8)
}

// TestShopsExample checks the examples at the end of chapter 4.
func TestShopsExample(t *testing.T) {
	wantTold(t, "the jobs 1 4 and 3 2 on two machines", told(impl.FlowLast([]int64{1, 4, 3, 2}, 2, []int64{0, 1})), 7)
	wantTold(t, "the counts 2 and 1", told(impl.MixedOrder([]int64{2, 1})), []int64{0, 1, 0})
	for _, before := range [][]int64{{0, 0, 0}, {0, 1, 1}, {0, 1, 2}} {
		_, count, ok := impl.LeastStations([]int64{3, 3, 2}, before, 6)
		want(t, "stations of tasks of 3, 3 and 2", ok && count == 2, true)
	}
	wantTold(t, "stations that they need at least", told(impl.LineBound([]int64{3, 3, 2}, 6)), 2)
}

// An answer is what many functions return: a result, and whether they succeed.
type answer[T any] struct {
	result T
	ok     bool
}

// told takes what such a function returns.
func told[T any](result T, ok bool) answer[T] { return answer[T]{result, ok} }

// wantTold fails if a function has failed, or has returned something else.
func wantTold[T any](t *testing.T, what string, got answer[T], wanted T) {
	t.Helper()
	if !got.ok || fmt.Sprint(got.result) != fmt.Sprint(wanted) {
		t.Errorf("%s: got %v, want %v", what, got, wanted)
	}
}

// wantNotTold fails if a function has not failed, or has returned something else than a zero value.
func wantNotTold[T any](t *testing.T, what string, got answer[T]) {
	t.Helper()
	var zero T
	if got.ok || fmt.Sprint(got.result) != fmt.Sprint(zero) {
		t.Errorf("%s: got %v, want a failure", what, got)
	}
}

// sumByHand returns the sum of a list.
func sumByHand(list []int64) int64 {
	var sum int64
	for _, n := range list {
		sum += n
	}
	return sum
}

// rowOf returns the times of a job.
func rowOf(times []int64, machines int, job int64) []int64 {
	return times[int(job)*machines : (int(job)+1)*machines]
}

// straight returns the routes by which all jobs go to all machines in their order.
func straight(jobs, machines int) []int64 {
	return slices.Repeat(upwards(machines), jobs)
}

// drawRoutes returns routes of some jobs.
func drawRoutes(r *rand.Rand, jobs, machines int) []int64 {
	var routes []int64
	for range jobs {
		routes = append(routes, drawOrder(r, machines)...)
	}
	return routes
}

// drawTurns returns turns of some jobs.
func drawTurns(r *rand.Rand, jobs, machines int) []int64 {
	var turns []int64
	for range machines {
		turns = append(turns, upwards(jobs)...)
	}
	r.Shuffle(len(turns), func(i, k int) { turns[i], turns[k] = turns[k], turns[i] })
	return turns
}

// A wrongShop is a list of times, and a number of machines, not both of which are right.
type wrongShop struct {
	times    []int64
	machines int64
}

// wrongShops are such ones that have one number that is wrong by 1, or far away, or one number too much or too few.
func wrongShops() []wrongShop {
	shops := []wrongShop{
		{nil, 1}, {nil, 2}, {[]int64{}, 8}, {[]int64{1}, 2}, {[]int64{1, 1, 1}, 2}, {repeated[int64](1, 9), 8},
		{repeated[int64](1, impl.MaxJobs+1), 1}, {repeated[int64](1, 2*impl.MaxJobs+1), 2}, {repeated[int64](1, 2*impl.MaxJobs+2), 2},
		{repeated[int64](1, 9), 9}, {repeated[int64](1, 18), 9},
	}
	for _, machines := range []int64{0, -1, -2, math.MinInt64, math.MaxInt64} {
		shops = append(shops, wrongShop{nil, machines}, wrongShop{[]int64{1, 1}, machines})
	}
	for _, time := range []int64{0, -1, impl.MaxTime + 1, math.MinInt64, math.MaxInt64} {
		shops = append(shops, wrongShop{[]int64{time}, 1}, wrongShop{[]int64{1, time}, 1}, wrongShop{[]int64{1, 2, time, 3}, 2})
	}
	return shops
}

// orderFor returns an order that has as many jobs as a wrong shop could have.
func (s wrongShop) orderFor() []int64 {
	if s.machines < 1 || s.machines > 100 {
		return upwards(1)
	}
	return upwards(len(s.times) / int(s.machines))
}

// A span is what takes a thing from a time to before another one.
type span struct{ thing, from, to int64 }

// areApart reports whether no thing has two spans at a time, after a look at each time.
func areApart(spans []span) bool {
	taken := map[[2]int64]bool{}
	for _, s := range spans {
		for at := s.from; at < s.to; at++ {
			if taken[[2]int64{s.thing, at}] {
				return false
			}
			taken[[2]int64{s.thing, at}] = true
		}
	}
	return true
}

// isPlanByHand reports whether no job, and no machine, has two things to do at once.
func isPlanByHand(routes, times []int64, machines int, starts []int64) bool {
	var ofJobs, ofMachines []span
	for step, start := range starts {
		ofJobs = append(ofJobs, span{int64(step / machines), start, start + times[step]})
		ofMachines = append(ofMachines, span{routes[step], start, start + times[step]})
	}
	return areApart(ofJobs) && areApart(ofMachines)
}

// followsByHand reports whether, in each job, the steps are one behind the other.
func followsByHand(times []int64, machines int, starts []int64) bool {
	for step, start := range starts {
		if step%machines > 0 && start < starts[step-1]+times[step-1] {
			return false
		}
	}
	return true
}

// endByStarts returns the last end of steps.
func endByStarts(times, starts []int64) int64 {
	var last int64
	for step, start := range starts {
		last = max(last, start+times[step])
	}
	return last
}

// loadsByHand returns the greatest sum of times of a job, and of a machine.
func loadsByHand(routes, times []int64, machines int) int64 {
	var most int64
	for thing := range int64(len(times)) {
		var ofJob, ofMachine int64
		for step, time := range times {
			if int64(step/machines) == thing {
				ofJob += time
			}
			if routes[step] == thing {
				ofMachine += time
			}
		}
		most = max(most, ofJob, ofMachine)
	}
	return most
}
