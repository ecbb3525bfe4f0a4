package tests

import (
	"fmt"
	"math"
	"math/rand/v2"
	"slices"
	"testing"

	"loop.example/g01389/impl"
)

// A mending is what MendPlan is asked for.
type mending struct {
	list           []impl.Task
	starts         []int64
	task, by, crew int64
}

// told returns what MendPlan returns.
func (m mending) told() plan { return planOf(impl.MendPlan(m.list, m.starts, m.task, m.by, m.crew)) }

// byHand tries one start after another for each task, the first ones first; it fails if one stands ahead of what comes before it, or never fits.
func (m mending) byHand() plan {
	list := slices.Clone(m.list)
	list[m.task].Time += m.by
	starts, told := slices.Clone(m.starts), []int64{}
	var differ int64
	for at := range int64(impl.MaxTimes + 1) {
		for i := range int64(len(list)) {
			if m.starts[i] != at {
				continue
			}
			for _, before := range list[i].Before {
				if !slices.Contains(told, before) {
					return plan{}
				}
			}
			starts[i] = max(at, readyByHand(list, starts, int(i)))
			told = append(told, i)
			for !fitsByHand(list, starts, told, m.crew) {
				starts[i]++
				if starts[i] > 5000 {
					return plan{}
				}
			}
			if starts[i] != at {
				differ++
			}
		}
	}
	return plan{starts, differ, true}
}

// fitsByHand reports whether the crew is enough for the last one of some tasks, as long as it takes.
func fitsByHand(list []impl.Task, starts, tasks []int64, crew int64) bool {
	last := tasks[len(tasks)-1]
	for at := starts[last]; at < starts[last]+list[last].Time; at++ {
		if needsAt(list, starts, tasks, at) > crew {
			return false
		}
	}
	return true
}

// drawMending returns a plan that is to be mended, in which some tasks start later than they must.
func drawMending(r *rand.Rand) mending {
	m := mending{list: drawTasks(r, 1+r.IntN(10), -r.Int64N(4)), by: r.Int64N(6)}
	m.crew = mostNeeds(m.list) + r.Int64N(3)
	order := upwards(len(m.list))
	m.starts, _ = planByHand(m.list, order, m.crew)
	for range r.IntN(4) {
		later := slices.Clone(m.starts)
		later[r.IntN(len(later))] += 1 + r.Int64N(5)
		if keepsByHand(m.list, later, m.crew) {
			m.starts = later
		}
	}
	m.task = r.Int64N(int64(len(m.list)))
	return m
}

func TestMendPlan(t *testing.T) {
	two := []impl.Task{{Time: 2, Needs: 1}, behind(3, 1, 0, 0)}
	three := []impl.Task{{Time: 2, Needs: 1}, {Time: 2, Needs: 1}, {Time: 4, Needs: 1}}
	for _, c := range []struct {
		what string
		m    mending
		plan plan
	}{
		{"one behind another one", mending{two, []int64{0, 2}, 0, 1, 1}, plan{[]int64{0, 3}, 1, true}}, {"nothing changes", mending{two, []int64{0, 2}, 0, 0, 1}, plan{[]int64{0, 2}, 0, true}},
		{"the last one", mending{two, []int64{0, 2}, 1, 97, 1}, plan{[]int64{0, 2}, 0, true}}, {"room between", mending{two, []int64{1, 5}, 0, 2, 1}, plan{[]int64{1, 5}, 0, true}}, {"room, but too little", mending{two, []int64{1, 5}, 0, 3, 1}, plan{[]int64{1, 6}, 1, true}},
		{"a crew of one", mending{three, []int64{2, 0, 4}, 1, 1, 1}, plan{[]int64{3, 0, 5}, 2, true}}, {"a crew of two", mending{three, []int64{2, 0, 0}, 1, 1, 2}, plan{[]int64{3, 0, 0}, 1, true}},
		{"the first ones of equal ones", mending{three, []int64{0, 0, 2}, 0, 3, 2}, plan{[]int64{0, 0, 2}, 0, true}}, {"one that is told later waits", mending{three, []int64{2, 4, 0}, 0, 3, 2}, plan{[]int64{2, 4, 0}, 0, true}},
		{"what starts at once is told first", mending{three, []int64{0, 2, 2}, 0, 1, 2}, plan{[]int64{0, 2, 3}, 1, true}}, {"as long as can be", mending{two, []int64{0, 2}, 0, 98, 1}, plan{[]int64{0, 100}, 1, true}},
		{"from no time to all", mending{[]impl.Task{{Needs: 1}, {Time: 1, Needs: 1}}, []int64{0, 0}, 0, 100, 1}, plan{[]int64{0, 100}, 1, true}}, {"no crew", mending{[]impl.Task{{Time: 1}, behind(1, 0, 0, 0)}, []int64{0, 1}, 0, 1, 0}, plan{[]int64{0, 2}, 1, true}},
		{"a lag", mending{[]impl.Task{{Time: 1}, behind(1, 0, 0, 5)}, []int64{0, 6}, 0, 3, 1}, plan{[]int64{0, 9}, 1, true}}, {"a lag that goes back", mending{[]impl.Task{{Time: 4}, behind(1, 0, 0, -3)}, []int64{0, 1}, 0, 3, 1}, plan{[]int64{0, 4}, 1, true}},
		{"they end behind all plans", mending{[]impl.Task{{Time: 1, Needs: 1}, {Time: 1, Needs: 1}}, []int64{398, 399}, 0, 50, 1}, plan{[]int64{398, 449}, 1, true}},
		{"no time, but more than the crew", mending{[]impl.Task{{Needs: 5}, {Time: 1, Needs: 1}}, []int64{0, 0}, 1, 1, 1}, plan{[]int64{0, 0}, 0, true}}, {"still no time", mending{[]impl.Task{{Needs: 5}, behind(1, 1, 0, 0)}, []int64{3, 3}, 0, 0, 1}, plan{[]int64{3, 3}, 0, true}},
	} {
		wantPlan(t, c.what, c.m.told(), c.plan.list, c.plan.number)
		wantPlan(t, c.what+" by hand", c.m.byHand(), c.plan.list, c.plan.number)
	}
	r := drawer(440)
	counts := map[bool]int{}
	for range 3000 {
		m := drawMending(r)
		byHand := m.byHand()
		counts[byHand.ok]++
		if byHand.ok {
			wantPlan(t, fmt.Sprint("drawn plan ", m), m.told(), byHand.list, byHand.number)
			longer := slices.Clone(m.list)
			longer[m.task].Time += m.by
			want(t, "a plan again", keepsByHand(longer, byHand.list, m.crew), true)
		} else {
			wantNoPlan(t, fmt.Sprint("drawn plan ", m), m.told())
		}
	}
	want(t, "right and wrong ones", counts[true] > 1000 && counts[false] > 30, true)
}

func TestMendPlanFails(t *testing.T) {
	two := []impl.Task{{Time: 2, Needs: 1}, behind(3, 1, 0, 0)}
	good := mending{two, []int64{0, 2}, 0, 1, 1}
	want(t, "a right one", good.told().ok, true)
	for _, starts := range append(wrongStarts(), []int64{0, 1}, []int64{0, 398}, []int64{3, 0}) {
		m := good
		m.starts = starts
		wantNoPlan(t, fmt.Sprint("no plan ", starts), m.told())
	}
	for _, n := range []int64{-1, 2, math.MinInt64, math.MaxInt64} {
		m := good
		m.task = n
		wantNoPlan(t, "a wrong task", m.told())
	}
	for _, n := range []int64{-1, 99, 100, 101, math.MinInt64, math.MaxInt64} {
		m := good
		m.by = n
		wantNoPlan(t, "a wrong length", m.told())
	}
	for _, n := range []int64{0, -1, impl.MaxCrew + 1, math.MinInt64, math.MaxInt64} {
		m := good
		m.crew = n
		wantNoPlan(t, "a wrong crew", m.told())
	}
	for _, bad := range badTasks() {
		wantNoPlan(t, "no tasks", mending{bad, make([]int64, len(bad)), 0, 0, impl.MaxCrew}.told())
	}
	wantNoPlan(t, "a task of no time that becomes longer by too much", mending{[]impl.Task{{}}, []int64{0}, 0, 101, 1}.told())
	wantNoPlan(t, "a task ahead of its Before", mending{[]impl.Task{{Time: 4}, behind(1, 0, 0, -4)}, []int64{1, 0}, 0, 0, 1}.told())
	wantNoPlan(t, "the other task becomes longer", mending{[]impl.Task{{Time: 4}, behind(1, 0, 0, -4)}, []int64{1, 0}, 1, 1, 1}.told())
	wantNoPlan(t, "a task that needs more than the crew, and takes time now", mending{[]impl.Task{{Needs: 5}, {Time: 1, Needs: 1}}, []int64{0, 0}, 0, 1, 4}.told())
}
