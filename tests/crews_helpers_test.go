package tests

import (
	"math"
	"math/rand/v2"
	"slices"
	"testing"

	"loop.example/g01389/impl"
)

// TestLimitsOfCrews checks the limits that chapter 6 names.
func TestLimitsOfCrews(t *testing.T) {
	want(t, "MaxTrips", impl.MaxTrips, 24)
	want(t, "MaxTowns", impl.MaxTowns, 8)
	want(t, "MaxSlots", impl.MaxSlots, 24)
	want(t, "MaxPeople", impl.MaxPeople, 12)
}

// TestCrewsExample checks the examples at the end of chapter 6.
func TestCrewsExample(t *testing.T) {
	trips := []impl.Trip{{Start: 0, End: 10, From: 0, To: 1}, {Start: 12, End: 20, From: 2, To: 0}}
	wantPlan(t, "two trips, and a move that takes 3", planOf(impl.FewestVehicles(trips, movesOf(1, 2, 3))), []int64{0, 1}, 2)
	wantPlan(t, "a move that takes 2", planOf(impl.FewestVehicles(trips, movesOf(1, 2, 2))), []int64{0, 0}, 1)
	wantTold(t, "shifts", told(impl.CountShifts(exampleRule())), 6)
	wantTold(t, "one server", told(impl.WaitChance(0.5, 1)), 0.5)
}

// exampleRule is that of the examples.
func exampleRule() impl.ShiftRule {
	return impl.ShiftRule{Slots: 3, Least: 1, Most: 2, Row: 2, Pause: 1}
}

// movesOf returns moves that take no time, but for some, each told by two towns and how long it takes.
func movesOf(triples ...int64) []int64 {
	moves := make([]int64, impl.MaxTowns*impl.MaxTowns)
	for triple := range slices.Chunk(triples, 3) {
		moves[triple[0]*impl.MaxTowns+triple[1]] = triple[2]
	}
	return moves
}

// drawTrips returns trips that start before some time, and are short, so that many of them touch.
func drawTrips(r *rand.Rand, n int, before int64) []impl.Trip {
	trips := make([]impl.Trip, n)
	for i := range trips {
		start := r.Int64N(before)
		trips[i] = impl.Trip{Start: start, End: start + 1 + r.Int64N(5), From: r.Int64N(impl.MaxTowns), To: r.Int64N(impl.MaxTowns)}
	}
	return trips
}

// drawMoves returns moves that take at most most.
func drawMoves(r *rand.Rand, most int64) []int64 {
	moves := drawList(r, impl.MaxTowns*impl.MaxTowns, 0, most)
	for town := range impl.MaxTowns {
		moves[town*impl.MaxTowns+town] = 0
	}
	return moves
}

// badTrips returns lists that are not trips, each of which has one number that is wrong by 1, or far away, or one trip too many.
func badTrips() [][]impl.Trip {
	good := impl.Trip{Start: 0, End: 1}
	lists := [][]impl.Trip{nil, {}, repeated(good, impl.MaxTrips+1)}
	for _, bad := range []impl.Trip{
		{Start: -1, End: 1}, {Start: math.MinInt64, End: 1}, {Start: 1, End: 1}, {Start: 2, End: 1}, {Start: 0, End: 0}, {Start: math.MaxInt64, End: 1},
		{Start: 1, End: 10001}, {Start: 10000, End: 10001}, {Start: 10000, End: 10000}, {Start: 1, End: math.MaxInt64}, {Start: 1, End: math.MinInt64},
		{End: 1, From: -1}, {End: 1, From: impl.MaxTowns}, {End: 1, From: math.MinInt64}, {End: 1, From: math.MaxInt64},
		{End: 1, To: -1}, {End: 1, To: impl.MaxTowns}, {End: 1, To: math.MinInt64}, {End: 1, To: math.MaxInt64},
	} {
		lists = append(lists, []impl.Trip{bad}, []impl.Trip{good, bad}, append(repeated(good, impl.MaxTrips-1), bad))
	}
	return lists
}

// badMoves returns lists that are not moves, each of which has one number that is wrong by 1, or far away, or one number too much or too few.
func badMoves() [][]int64 {
	const all = impl.MaxTowns * impl.MaxTowns
	lists := [][]int64{nil, {}, make([]int64, all-1), make([]int64, all+1), make([]int64, impl.MaxTowns)}
	for _, bad := range []int64{-1, 1001, math.MinInt64, math.MaxInt64} {
		for _, place := range []int{1, 8, 62} {
			list := make([]int64, all)
			list[place] = bad
			lists = append(lists, list)
		}
	}
	for town := range impl.MaxTowns {
		list := make([]int64, all)
		list[town*impl.MaxTowns+town] = 1
		lists = append(lists, list)
	}
	return lists
}

// drawShiftRule returns a valid rule of some slots.
func drawShiftRule(r *rand.Rand, slots int64) impl.ShiftRule {
	rule := impl.ShiftRule{Slots: slots, Least: r.Int64N(slots + 1), Row: 1 + r.Int64N(slots), Pause: 1 + r.Int64N(slots)}
	// Most rules have room for several rows.
	if r.IntN(3) > 0 {
		rule.Least, rule.Row, rule.Pause = rule.Least/2, 1+r.Int64N(min(slots, 4)), 1+r.Int64N(min(slots, 3))
	}
	rule.Most = rule.Least + r.Int64N(slots-rule.Least+1)
	return rule
}

// badShiftRules are rules that have one number that is wrong by 1, or far away.
func badShiftRules() []impl.ShiftRule {
	return []impl.ShiftRule{
		{}, {Slots: 0, Row: 1, Pause: 1}, {Slots: -1, Row: 1, Pause: 1}, {Slots: -1, Least: -1, Most: -1, Row: -1, Pause: -1},
		{Slots: impl.MaxSlots + 1, Row: 1, Pause: 1}, {Slots: math.MinInt64, Row: 1, Pause: 1}, {Slots: math.MaxInt64, Row: 1, Pause: 1},
		{Slots: 3, Least: -1, Most: 2, Row: 2, Pause: 1}, {Slots: 3, Least: 3, Most: 2, Row: 2, Pause: 1}, {Slots: 3, Least: math.MinInt64, Most: 2, Row: 2, Pause: 1},
		{Slots: 3, Least: math.MaxInt64, Most: 2, Row: 2, Pause: 1}, {Slots: 3, Least: -1, Most: -1, Row: 2, Pause: 1},
		{Slots: 3, Least: 1, Most: 4, Row: 2, Pause: 1}, {Slots: 3, Least: 4, Most: 4, Row: 2, Pause: 1}, {Slots: 3, Least: 1, Most: math.MaxInt64, Row: 2, Pause: 1}, {Slots: 3, Least: 1, Most: math.MinInt64, Row: 2, Pause: 1},
		{Slots: 3, Least: 1, Most: 2, Row: 0, Pause: 1}, {Slots: 3, Least: 1, Most: 2, Row: 4, Pause: 1}, {Slots: 3, Least: 1, Most: 2, Row: math.MinInt64, Pause: 1}, {Slots: 3, Least: 1, Most: 2, Row: math.MaxInt64, Pause: 1},
		{Slots: 3, Least: 1, Most: 2, Row: 2, Pause: 0}, {Slots: 3, Least: 1, Most: 2, Row: 2, Pause: 4}, {Slots: 3, Least: 1, Most: 2, Row: 2, Pause: math.MinInt64}, {Slots: 3, Least: 1, Most: 2, Row: 2, Pause: math.MaxInt64},
	}
}
