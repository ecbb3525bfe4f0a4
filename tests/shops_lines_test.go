package tests

import (
	"math"
	"math/rand/v2"
	"slices"
	"testing"

	"loop.example/g01389/impl"
)

// A line has times of tasks, and which ones must be done before each of them.
type line struct{ times, before []int64 }

// drawLine returns a line of n tasks, each of which is behind some others.
func drawLine(r *rand.Rand, n int, most int64) line {
	l := line{drawList(r, n, 1, most), make([]int64, n)}
	for task := range l.before {
		l.before[task] = r.Int64N(1<<task) & r.Int64N(1<<task)
	}
	return l
}

// wrongLines are lists that are no lines.
func wrongLines() []line {
	ones := repeated[int64](1, impl.MaxStations+1)
	lines := []line{
		{nil, nil}, {[]int64{}, []int64{}}, {ones, make([]int64, len(ones))}, {[]int64{1}, nil}, {nil, []int64{0}}, {[]int64{1}, []int64{0, 0}}, {[]int64{1, 1}, []int64{0}},
		{[]int64{0}, []int64{0}}, {[]int64{1, impl.MaxTime + 1}, []int64{0, 0}}, {[]int64{-1, 1}, []int64{0, 0}}, {[]int64{math.MinInt64}, []int64{0}}, {[]int64{math.MaxInt64}, []int64{0}},
	}
	for task := range impl.MaxStations {
		for _, set := range []int64{-1, 1 << task, 1 << (task + 1), math.MinInt64, math.MaxInt64} {
			before := make([]int64, impl.MaxStations)
			before[task] = set
			lines = append(lines, line{repeated[int64](1, impl.MaxStations), before})
		}
	}
	return lines
}

// isAhead reports whether a task must be done before another one.
func (l line) isAhead(task, other int) bool { return l.before[other]>>task&1 == 1 }

// keeps reports whether stations keep the cycle, and have no task ahead of one before it.
func (l line) keeps(stations []int64, cycle int64) bool {
	loads := map[int64]int64{}
	for task, station := range stations {
		loads[station] += l.times[task]
		if loads[station] > cycle {
			return false
		}
		for other := range stations {
			if l.isAhead(task, other) && station > stations[other] {
				return false
			}
		}
	}
	return true
}

func TestIsLine(t *testing.T) {
	for n := 1; n <= impl.MaxStations; n++ {
		least, most := line{repeated[int64](1, n), make([]int64, n)}, line{repeated[int64](impl.MaxTime, n), make([]int64, n)}
		for task := range n {
			most.before[task] = 1<<task - 1
		}
		want(t, "a line", impl.IsLine(least.times, least.before), true)
		want(t, "a line of which each task is behind all before it", impl.IsLine(most.times, most.before), true)
	}
	for _, l := range wrongLines() {
		want(t, "no line", impl.IsLine(l.times, l.before), false)
	}
}

// stationsByHand carries out LineStations.
func (l line) stationsByHand(cycle int64) []int64 {
	stations := repeated[int64](-1, len(l.times))
	last, load := int64(0), int64(0)
	for slices.Contains(stations, -1) {
		next := -1
		for task, time := range l.times {
			ready := stations[task] < 0 && load+time <= cycle
			for other := range stations {
				ready = ready && (!l.isAhead(other, task) || stations[other] >= 0)
			}
			if ready && (next < 0 || time > l.times[next]) {
				next = task
			}
		}
		if next < 0 {
			last, load = last+1, 0
			continue
		}
		stations[next], load = last, load+l.times[next]
	}
	return stations
}

func TestLineStations(t *testing.T) {
	cases := []struct {
		line
		cycle    int64
		stations []int64
	}{
		{line{[]int64{3, 3, 2}, []int64{0, 1, 1}}, 6, []int64{0, 0, 1}},
		// The longest task that fits is put there, even if longer ones do not fit.
		{line{[]int64{4, 3, 2, 5}, []int64{0, 0, 0, 0}}, 7, []int64{1, 1, 0, 0}},
		// The first one of equal ones is put there, if nothing is before it.
		{line{[]int64{2, 2, 2}, []int64{0, 0, 0}}, 4, []int64{0, 0, 1}},
		{line{[]int64{2, 2, 2}, []int64{0, 1, 0}}, 2, []int64{0, 1, 2}},
		{line{[]int64{1, 5, 5}, []int64{0, 1, 0}}, 5, []int64{1, 2, 0}},
		// A task can be done as soon as that before it stands at the same station.
		{line{[]int64{1, 1, 9}, []int64{0, 1, 2}}, 11, []int64{0, 0, 0}},
		{line{[]int64{1, 1, 9}, []int64{0, 1, 2}}, 10, []int64{0, 0, 1}},
		// A station that has been left is not gone back to.
		{line{[]int64{3, 3, 1}, []int64{0, 0, 2}}, 4, []int64{0, 1, 1}},
		{line{[]int64{6}, []int64{0}}, 6, []int64{0}},
		{line{repeated[int64](impl.MaxTime, 12), make([]int64, 12)}, impl.MaxTime, upwards(12)},
	}
	for _, c := range cases {
		wantTold(t, "stations by the rule", told(impl.LineStations(c.times, c.before, c.cycle)), c.stations)
	}
	r := drawer(141)
	for range 400 {
		l := drawLine(r, 1+r.IntN(impl.MaxStations), 9)
		cycle := slices.Max(l.times) + r.Int64N(8)
		wantTold(t, "stations by the rule", told(impl.LineStations(l.times, l.before, cycle)), l.stationsByHand(cycle))
	}
}

func TestLineBound(t *testing.T) {
	for _, c := range []struct {
		times        []int64
		cycle, bound int64
	}{
		{[]int64{3, 3, 2}, 6, 2}, {[]int64{3, 3, 2}, 8, 1}, {[]int64{3, 3, 2}, 7, 2}, {[]int64{3, 3, 3}, 8, 2}, {[]int64{3, 3, 2}, 4, 2}, {[]int64{1}, impl.MaxTime, 1},
		{repeated[int64](impl.MaxTime, 12), impl.MaxTime, 12}, {repeated[int64](impl.MaxTime, 12), impl.MaxTime - 1, 13},
		// The bound is told for any cycle, even one that is too short for a task.
		{[]int64{7}, 6, 2}, {repeated[int64](impl.MaxTime, 12), 1, 120000},
	} {
		wantTold(t, "bound", told(impl.LineBound(c.times, c.cycle)), c.bound)
	}
}

// leastByHandOn returns the first list of stations that are fewest, and how many these are, after a look at all lists.
func (l line) leastByHandOn(cycle int64) ([]int64, int64) {
	n := len(l.times)
	var best []int64
	least := int64(n + 1)
	stations := make([]int64, n)
	var look func(task int)
	look = func(task int) {
		if task < n {
			for station := range int64(n) {
				stations[task] = station
				look(task + 1)
			}
			return
		}
		count := slices.Max(stations) + 1
		for station := range count {
			if !slices.Contains(stations, station) {
				return
			}
		}
		if count < least && l.keeps(stations, cycle) {
			best, least = slices.Clone(stations), count
		}
	}
	look(0)
	return best, least
}

// leastBySteps does the same for more tasks: it tries one number of stations after another, and leaves ways that do not fit.
func (l line) leastBySteps(cycle int64) ([]int64, int64) {
	for count := int64(1); ; count++ {
		var stations []int64
		loads := make([]int64, count)
		var look func() bool
		look = func() bool {
			task := len(stations)
			if task == len(l.times) {
				return true
			}
			for station := range count {
				fits := loads[station]+l.times[task] <= cycle
				for other := range task {
					fits = fits && (!l.isAhead(other, task) || stations[other] <= station)
				}
				if !fits {
					continue
				}
				stations, loads[station] = append(stations, station), loads[station]+l.times[task]
				if look() {
					return true
				}
				stations, loads[station] = stations[:task], loads[station]-l.times[task]
			}
			return false
		}
		if look() {
			return stations, count
		}
	}
}

func TestLeastStations(t *testing.T) {
	cases := []struct {
		line
		cycle    int64
		stations []int64
		count    int64
	}{
		{line{[]int64{3, 3, 2}, []int64{0, 1, 1}}, 6, []int64{0, 0, 1}, 2},
		// The fewest stations come first, and of these, the first list.
		{line{[]int64{2, 3, 3, 4}, []int64{0, 0, 0, 0}}, 6, []int64{0, 1, 1, 0}, 2},
		{line{[]int64{2, 2, 2}, []int64{0, 0, 0}}, 4, []int64{0, 0, 1}, 2},
		{line{[]int64{5, 1, 4}, []int64{0, 0, 2}}, 5, []int64{0, 1, 1}, 2},
		{line{[]int64{5, 1, 4}, []int64{0, 0, 0}}, 5, []int64{0, 1, 1}, 2},
		// The first task leaves the first station to those that others are behind.
		{line{[]int64{3, 4, 2, 3}, []int64{0, 0, 2, 4}}, 6, []int64{1, 0, 0, 1}, 2},
		{line{[]int64{1, 5, 5}, []int64{0, 1, 2}}, 6, []int64{0, 0, 1}, 2},
		{line{[]int64{3, 5, 2, 5}, []int64{0, 0, 2, 4}}, 8, []int64{0, 0, 1, 1}, 2},
		{line{[]int64{6}, []int64{0}}, 6, []int64{0}, 1},
	}
	for _, c := range cases {
		wantPlan(t, "fewest stations", planOf(impl.LeastStations(c.times, c.before, c.cycle)), c.stations, c.count)
	}
	r := drawer(142)
	for range 120 {
		l := drawLine(r, 1+r.IntN(5), 6)
		cycle := slices.Max(l.times) + r.Int64N(5)
		stations, count := l.leastByHandOn(cycle)
		wantPlan(t, "fewest stations", planOf(impl.LeastStations(l.times, l.before, cycle)), stations, count)
		other, few := l.leastBySteps(cycle)
		want(t, "both searches by hand", slices.Equal(other, stations) && few == count, true)
	}
	for range 60 {
		l := drawLine(r, 6+r.IntN(7), 9)
		cycle := slices.Max(l.times) + r.Int64N(8)
		stations, count := l.leastBySteps(cycle)
		wantPlan(t, "fewest stations of more tasks", planOf(impl.LeastStations(l.times, l.before, cycle)), stations, count)
	}
}

// TestLinesOfOneStation checks lines that one station is just enough for, or by 1 too little.
func TestLinesOfOneStation(t *testing.T) {
	r := drawer(143)
	for n := 1; n <= impl.MaxStations; n++ {
		l := drawLine(r, n, impl.MaxTime/impl.MaxStations)
		cycle := sumByHand(l.times)
		one := make([]int64, n)
		wantTold(t, "one station by the rule", told(impl.LineStations(l.times, l.before, cycle)), one)
		wantPlan(t, "one station", planOf(impl.LeastStations(l.times, l.before, cycle)), one, 1)
		wantPlan(t, "one station in the longest cycle", planOf(impl.LeastStations(l.times, l.before, impl.MaxTime)), one, 1)
		wantTold(t, "one station at least", told(impl.LineBound(l.times, cycle)), 1)
		wantTold(t, "its load", told(impl.LoadsOfLine(l.times, one)), []int64{cycle})
		if n > 1 {
			_, count, ok := impl.LeastStations(l.times, l.before, cycle-1)
			want(t, "two stations", ok && count == 2, true)
			wantTold(t, "two stations at least", told(impl.LineBound(l.times, cycle-1)), 2)
			continue
		}
		wantNoPlan(t, "a task that is too long", planOf(impl.LeastStations(l.times, l.before, cycle-1)))
	}
	tight := repeated[int64](impl.MaxTime, impl.MaxStations)
	wantPlan(t, "as many stations as tasks", planOf(impl.LeastStations(tight, make([]int64, impl.MaxStations), impl.MaxTime)), upwards(impl.MaxStations), impl.MaxStations)
}

// TestLeastStationsAreNoWorse checks that both plans keep all bounds, and stand one behind the other.
func TestLeastStationsAreNoWorse(t *testing.T) {
	r := drawer(144)
	fewer := 0
	for range 300 {
		l := drawLine(r, 1+r.IntN(impl.MaxStations), 20)
		cycle := slices.Max(l.times) + r.Int64N(20)
		rule, ok := impl.LineStations(l.times, l.before, cycle)
		want(t, "the rule keeps all bounds", ok && l.keeps(rule, cycle), true)
		best, count, ok := impl.LeastStations(l.times, l.before, cycle)
		want(t, "the best one keeps all bounds", ok && l.keeps(best, cycle), true)
		want(t, "how many they are", slices.Max(best)+1, count)
		for _, stations := range [][]int64{rule, best} {
			loads, ok := impl.LoadsOfLine(l.times, stations)
			want(t, "all stations have tasks, and none too many", ok && slices.Min(loads) > 0 && slices.Max(loads) <= cycle, true)
		}
		bound, _ := impl.LineBound(l.times, cycle)
		want(t, "no better than the bound", bound <= count, true)
		want(t, "no worse than the rule", count <= slices.Max(rule)+1, true)
		if count <= slices.Max(rule) {
			fewer++
		}
	}
	want(t, "it is sometimes better", fewer > 5, true)
}

func TestLoadsOfLine(t *testing.T) {
	wantTold(t, "two stations", told(impl.LoadsOfLine([]int64{3, 3, 2}, []int64{0, 0, 1})), []int64{6, 2})
	wantTold(t, "stations without tasks", told(impl.LoadsOfLine([]int64{3, 3, 2}, []int64{4, 1, 4})), []int64{0, 3, 0, 0, 5})
	wantTold(t, "the last station", told(impl.LoadsOfLine([]int64{7}, []int64{11})), []int64{0, 0, 0, 0, 0, 0, 0, 0, 0, 0, 0, 7})
	wantTold(t, "the greatest load", told(impl.LoadsOfLine(repeated[int64](impl.MaxTime, 12), make([]int64, 12))), []int64{12 * impl.MaxTime})
	for _, stations := range [][]int64{nil, {0}, {0, 0, 0}, {-1, 0}, {0, 12}, {math.MinInt64, 0}, {0, math.MaxInt64}} {
		wantNotTold(t, "wrong stations", told(impl.LoadsOfLine([]int64{1, 1}, stations)))
	}
}

func TestLinesFail(t *testing.T) {
	fails := func(what string, l line, cycle int64) {
		t.Helper()
		wantNotTold(t, what, told(impl.LineStations(l.times, l.before, cycle)))
		wantNoPlan(t, what, planOf(impl.LeastStations(l.times, l.before, cycle)))
	}
	for _, l := range wrongLines() {
		fails("no line", l, impl.MaxTime)
	}
	good := line{[]int64{5, 7, 6}, []int64{0, 1, 0}}
	for _, cycle := range []int64{0, -1, impl.MaxTime + 1, math.MinInt64, math.MaxInt64} {
		fails("a wrong cycle", good, cycle)
		wantNotTold(t, "a wrong cycle", told(impl.LineBound(good.times, cycle)))
	}
	fails("a time that is greater by 1", good, 6)
	fails("a time that is greater", line{[]int64{7}, []int64{0}}, 6)
	wantTold(t, "a time that just fits", told(impl.LineStations(good.times, good.before, 7)), []int64{1, 2, 0})
	for _, times := range [][]int64{nil, {}, {0}, {1, -1}, {impl.MaxTime + 1}, {1, math.MaxInt64}, {math.MinInt64}, repeated[int64](1, 13)} {
		wantNotTold(t, "wrong times", told(impl.LineBound(times, 10)))
		wantNotTold(t, "wrong times", told(impl.LoadsOfLine(times, make([]int64, len(times)))))
	}
}
