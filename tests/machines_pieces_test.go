package tests

import (
	"math"
	"testing"

	"loop.example/g01389/impl"
)

// piecesByHand fills a line of units of time, and then looks at it.
func piecesByHand(jobs []impl.Job, rule int64) (ends, pieces []int64) {
	given := make([]int64, len(jobs))
	var line []int
	done := func() bool {
		for i, job := range jobs {
			if given[i] < job.Time {
				return false
			}
		}
		return true
	}
	for !done() {
		now, taker, least := int64(len(line)), -1, int64(math.MaxInt64)
		for i, job := range jobs {
			left := job.Time - given[i]
			rank := []int64{left, job.Due}[rule]
			if job.Release <= now && left > 0 && rank < least {
				taker, least = i, rank
			}
		}
		if taker >= 0 {
			given[taker]++
		}
		line = append(line, taker)
	}
	ends, pieces = make([]int64, len(jobs)), make([]int64, len(jobs))
	for now, job := range line {
		if job < 0 {
			continue
		}
		ends[job] = int64(now) + 1
		if now+1 == len(line) || line[now+1] != job {
			pieces[job]++
		}
	}
	return ends, pieces
}

func TestPieceEnds(t *testing.T) {
	cases := []struct {
		jobs         []impl.Job
		rule         int64
		ends, pieces []int64
	}{
		{[]impl.Job{{Time: 4, Due: 9}, {Time: 1, Release: 1, Due: 3}}, 1, []int64{5, 2}, []int64{2, 1}},
		{[]impl.Job{{Time: 4, Due: 9}, {Time: 1, Release: 1, Due: 3}}, 0, []int64{5, 2}, []int64{2, 1}},
		// What is left counts, not the whole Time: at 2, both have 2 left.
		{[]impl.Job{{Time: 4}, {Time: 2, Release: 2}}, 0, []int64{4, 6}, []int64{1, 1}},
		{[]impl.Job{{Time: 2, Release: 2}, {Time: 4}}, 0, []int64{4, 6}, []int64{1, 2}},
		// Equal jobs are not parted.
		{repeated(impl.Job{Time: 3, Release: 1, Due: 2}, 3), 0, []int64{4, 7, 10}, []int64{1, 1, 1}},
		{repeated(impl.Job{Time: 3, Release: 1, Due: 2}, 3), 1, []int64{4, 7, 10}, []int64{1, 1, 1}},
		{[]impl.Job{{Time: 3, Due: 5, Release: 1}, {Time: 3, Due: 5}}, 1, []int64{4, 6}, []int64{1, 2}},
		// Between the jobs, the machine has none.
		{[]impl.Job{{Time: 1}, {Time: 2, Release: 3}}, 0, []int64{1, 5}, []int64{1, 1}},
		// A job that is stopped twice.
		{[]impl.Job{{Time: 5, Due: 9}, {Time: 1, Release: 1, Due: 3}, {Time: 1, Release: 3, Due: 4}}, 1, []int64{7, 2, 4}, []int64{3, 1, 1}},
		{[]impl.Job{{Time: impl.MaxTime}}, 0, []int64{impl.MaxTime}, []int64{1}},
		{[]impl.Job{{Time: 1}, {Time: 1, Release: impl.MaxTime - 2}}, 1, []int64{1, impl.MaxTime - 1}, []int64{1, 1}},
	}
	for _, c := range cases {
		ends, pieces, ok := impl.PieceEnds(c.jobs, c.rule)
		want(t, "succeeds", ok, true)
		wantList(t, "ends", ends, c.ends)
		wantList(t, "pieces", pieces, c.pieces)
	}
	r := drawer(10)
	for range 300 {
		jobs := drawJobs(r, 1+r.IntN(impl.MaxJobs), 20)
		for rule := range int64(2) {
			ends, pieces, _ := impl.PieceEnds(jobs, rule)
			endsWanted, piecesWanted := piecesByHand(jobs, rule)
			wantList(t, "ends by hand", ends, endsWanted)
			wantList(t, "pieces by hand", pieces, piecesWanted)
		}
	}
}

// TestPiecesAreNoWorse checks that jobs that can stop end, by the rules, no later than those that can't, however these are ordered.
func TestPiecesAreNoWorse(t *testing.T) {
	r := drawer(11)
	for range 60 {
		jobs := drawJobs(r, 1+r.IntN(6), 12)
		for i := range jobs {
			jobs[i].Weight = 1
		}
		ends, _, _ := impl.PieceEnds(jobs, 0)
		var sum int64
		for _, end := range ends {
			sum += end
		}
		_, least, _ := impl.BestReleased(jobs, 1)
		want(t, "sum of ends", sum <= least, true)
		ends, _, _ = impl.PieceEnds(jobs, 1)
		lateness := int64(math.MinInt64)
		for i, end := range ends {
			lateness = max(lateness, end-jobs[i].Due)
		}
		_, least, _ = impl.BestReleased(jobs, 2)
		want(t, "lateness", lateness <= least, true)
		_, least, _ = impl.BestOrder(ready(jobs), 2)
		want(t, "lateness with releases", lateness >= least, true)
	}
}

func TestPieceEndsFails(t *testing.T) {
	fails := func(what string, jobs []impl.Job, rule int64) {
		ends, pieces, ok := impl.PieceEnds(jobs, rule)
		wantListFailure(t, what, ends, ok)
		wantListFailure(t, what, pieces, ok)
	}
	for _, rule := range []int64{-1, 2, 3, 4, math.MinInt64, math.MaxInt64} {
		fails("a wrong rule", []impl.Job{{Time: 1}}, rule)
	}
	for rule := range int64(2) {
		for _, jobs := range badJobs() {
			fails("wrong jobs", jobs, rule)
		}
		fails("too long a Time", []impl.Job{{Time: impl.MaxTime, Release: 1}}, rule)
		fails("too late a Release", []impl.Job{{Time: 1}, {Time: 1, Release: impl.MaxTime - 1}}, rule)
		fails("too many Times", []impl.Job{{Time: impl.MaxTime}, {Time: 1}}, rule)
	}
}

func TestIsJobPlan(t *testing.T) {
	jobs := []impl.Job{{Time: 2, Release: 3}, {Time: 1}}
	cases := []struct {
		jobs   []impl.Job
		starts []int64
		plan   bool
		idle   int64
	}{
		{jobs, []int64{3, 0}, true, 2},
		{jobs, []int64{3, 2}, true, 2},
		{jobs, []int64{3, 5}, true, 3},
		{jobs, []int64{2, 0}, false, 0},
		{jobs, []int64{3, 3}, false, 0},
		{jobs, []int64{3, 4}, false, 0},
		{jobs, []int64{1000000, 0}, true, 1000002 - 3},
		{jobs, []int64{1000000, 1000000}, false, 0},
		{[]impl.Job{{Time: 1}, {Time: 5}}, []int64{6, 2}, false, 0},
		{[]impl.Job{{Time: 1}, {Time: 5}}, []int64{7, 2}, true, 2},
		{[]impl.Job{{Time: 5}, {Time: 1}}, []int64{0, 4}, false, 0},
		{[]impl.Job{{Time: 5}, {Time: 1}}, []int64{0, 5}, true, 0},
		{[]impl.Job{{Time: 4}}, []int64{0}, true, 0},
		{[]impl.Job{{Time: 4, Release: 1}}, []int64{0}, false, 0},
		{repeated(impl.Job{Time: 2}, 3), []int64{4, 0, 2}, true, 0},
		{repeated(impl.Job{Time: 2}, 3), []int64{4, 0, 0}, false, 0},
	}
	for _, c := range cases {
		plan, ok := impl.IsJobPlan(c.jobs, c.starts)
		want(t, "succeeds", ok, true)
		want(t, "a plan", plan, c.plan)
		idle, ok := impl.IdleOf(c.jobs, c.starts)
		want(t, "has idle time", ok, c.plan)
		want(t, "idle time", idle, c.idle)
	}
}

func TestIsJobPlanFails(t *testing.T) {
	fails := func(what string, jobs []impl.Job, starts []int64) {
		plan, ok := impl.IsJobPlan(jobs, starts)
		wantFailure(t, what, plan, ok)
		idle, ok := impl.IdleOf(jobs, starts)
		wantFailure(t, what, idle, ok)
	}
	jobs := []impl.Job{{Time: 2, Release: 3}, {Time: 1}}
	for _, starts := range [][]int64{nil, {3}, {3, 0, 9}, {3, -1}, {-1, 9}, {1000001, 0}, {3, math.MinInt64}, {3, math.MaxInt64}} {
		fails("wrong starts", jobs, starts)
	}
	for _, jobs := range badJobs() {
		starts := upwards(len(jobs))
		for i := range starts {
			starts[i] *= 2 * impl.MaxTime
		}
		fails("wrong jobs", jobs, starts)
	}
}

// TestOrdersArePlans checks that jobs that begin in an order are a plan, and how long the machine is idle then.
func TestOrdersArePlans(t *testing.T) {
	r := drawer(12)
	for range 200 {
		n := 1 + r.IntN(impl.MaxJobs)
		jobs, order := drawJobs(r, n, 30), drawOrder(r, n)
		starts, _ := impl.EndsOf(jobs, order)
		var sum, last int64
		for i, job := range jobs {
			last = max(last, starts[i])
			sum += job.Time
			starts[i] -= job.Time
		}
		plan, ok := impl.IsJobPlan(jobs, starts)
		want(t, "a plan", plan && ok, true)
		idle, ok := impl.IdleOf(jobs, starts)
		want(t, "idle time", ok && idle == last-sum, true)
		if n > 1 {
			// One unit earlier, a job comes too early, or before the one ahead of it has ended.
			starts[order[n-1]]--
			plan, ok = impl.IsJobPlan(jobs, starts)
			want(t, "no plan", ok && !plan, true)
		}
	}
}
