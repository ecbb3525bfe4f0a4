package tests

import (
	"math"
	"math/rand/v2"
	"slices"
	"testing"

	"loop.example/g01389/impl"
)

func TestAreTrips(t *testing.T) {
	good := [][]impl.Trip{
		{{Start: 0, End: 1}}, {{Start: 0, End: 10000, From: 7, To: 7}}, {{Start: 9999, End: 10000, From: 7}}, {{Start: 5, End: 6, To: 7}},
		repeated(impl.Trip{Start: 3, End: 4, From: 1, To: 2}, impl.MaxTrips), {{Start: 8, End: 9}, {Start: 2, End: 3}},
	}
	for _, trips := range good {
		want(t, "trips", impl.AreTrips(trips), true)
	}
	for _, trips := range badTrips() {
		want(t, "no trips", impl.AreTrips(trips), false)
	}
}

func TestSameTrips(t *testing.T) {
	trip := impl.Trip{Start: 1, End: 2, From: 3, To: 4}
	for _, trips := range append(badTrips(), []impl.Trip{trip}, []impl.Trip{trip, {Start: 1, End: 9}}, repeated(trip, 100)) {
		want(t, "the same trips", impl.SameTrips(trips, slices.Clone(trips)), true)
		want(t, "one more", impl.SameTrips(trips, append(slices.Clone(trips), trip)), false)
		want(t, "one less", impl.SameTrips(append(slices.Clone(trips), trip), trips), false)
	}
	for _, other := range []impl.Trip{{Start: 0, End: 2, From: 3, To: 4}, {Start: 1, End: 3, From: 3, To: 4}, {Start: 1, End: 2, From: 2, To: 4}, {Start: 1, End: 2, From: 3, To: -4}} {
		want(t, "another number", impl.SameTrips([]impl.Trip{trip, other}, []impl.Trip{trip, trip}), false)
		want(t, "another order", impl.SameTrips([]impl.Trip{trip, other}, []impl.Trip{other, trip}), false)
	}
	want(t, "none", impl.SameTrips(nil, []impl.Trip{}), true)
}

func TestAreMoves(t *testing.T) {
	r := drawer(300)
	for _, moves := range [][]int64{make([]int64, 64), drawMoves(r, 1000), drawMoves(r, 3), movesOf(0, 1, 1000, 7, 6, 1000)} {
		want(t, "moves", impl.AreMoves(moves), true)
	}
	for _, moves := range badMoves() {
		want(t, "no moves", impl.AreMoves(moves), false)
	}
}

// followsTrip reports whether a vehicle can do a trip behind another one.
func followsTrip(moves []int64, before, trip impl.Trip) bool {
	return trip.Start-before.End >= moves[8*before.To+trip.From]
}

func TestCanFollow(t *testing.T) {
	trips := []impl.Trip{{Start: 0, End: 10, From: 0, To: 1}, {Start: 13, End: 15, From: 2, To: 1}, {Start: 12, End: 20, From: 2, To: 0}, {Start: 15, End: 16, From: 1, To: 7}}
	// Behind the first trip, the move ends just when the second one starts, and 1 later than the third one does; the last ones touch.
	follow := told(impl.CanFollow(trips, movesOf(1, 2, 3, 2, 1, 100)))
	no, yes := false, true
	wantTold(t, "trips that touch", follow, []bool{no, yes, no, yes, no, no, no, yes, no, no, no, no, no, no, no, no})
	r := drawer(301)
	counts := map[bool]int{}
	for range 500 {
		trips, moves := drawTrips(r, 1+r.IntN(impl.MaxTrips), 20), drawMoves(r, 5)
		var rows []bool
		for _, trip := range trips {
			for _, next := range trips {
				rows = append(rows, followsTrip(moves, trip, next))
				counts[rows[len(rows)-1]]++
			}
		}
		wantTold(t, "trips", told(impl.CanFollow(trips, moves)), rows)
	}
	want(t, "with and without followers", counts[true] > 1000 && counts[false] > 1000, true)
	far := []impl.Trip{{Start: 0, End: 9000, To: 7}, {Start: 10000 - 1, End: 10000}, {Start: 9999, End: 10000, From: 1}}
	wantTold(t, "the longest move", told(impl.CanFollow(far, movesOf(7, 0, 1000, 7, 1, 999))), []bool{no, no, yes, no, no, no, no, no, no})
}

// vehiclesByHand tells vehicles as the document does: behind tells the trip behind each one, and looked those that have been looked at.
func vehiclesByHand(trips []impl.Trip, moves []int64) ([]int64, int64) {
	behind := map[int]int{}
	var look func(i int, looked map[int]bool) bool
	look = func(i int, looked map[int]bool) bool {
		for k := range trips {
			if !followsTrip(moves, trips[i], trips[k]) || looked[k] {
				continue
			}
			looked[k] = true
			before := -1
			for other, at := range behind {
				if at == k {
					before = other
				}
			}
			if before < 0 {
				behind[i] = k
				return true
			}
			if look(before, looked) {
				behind[i] = k
				return true
			}
		}
		return false
	}
	isBehind := map[int]bool{}
	for i := range trips {
		look(i, map[int]bool{})
	}
	for _, k := range behind {
		isBehind[k] = true
	}
	vehicles, count := make([]int64, len(trips)), int64(0)
	for i := range trips {
		if isBehind[i] {
			continue
		}
		at, more := i, true
		for more {
			vehicles[at] = count
			at, more = behind[at]
		}
		count++
	}
	return vehicles, count
}

// idleByHand tells how long vehicles move, or -1 if one of them can't do its trips.
func idleByHand(trips []impl.Trip, moves, vehicles []int64) int64 {
	var sum, most int64
	for _, trip := range trips {
		most = max(most, trip.Start)
	}
	for vehicle := range int64(impl.MaxTrips) {
		last := -1
		for start := range most + 1 {
			for i, trip := range trips {
				if vehicles[i] != vehicle || trip.Start != start {
					continue
				}
				if last >= 0 && !followsTrip(moves, trips[last], trip) {
					return -1
				}
				if last >= 0 {
					sum += moves[8*trips[last].To+trip.From]
				}
				last = i
			}
		}
	}
	return sum
}

// canDoWith reports whether so many vehicles can do all trips, after a look at all ways to give them; it takes trips in the order of Start.
func canDoWith(trips []impl.Trip, moves []int64, most int) bool {
	var lasts []impl.Trip
	var give func(i int) bool
	give = func(i int) bool {
		if i == len(trips) {
			return true
		}
		for vehicle, last := range lasts {
			if followsTrip(moves, last, trips[i]) {
				lasts[vehicle] = trips[i]
				if give(i + 1) {
					return true
				}
				lasts[vehicle] = last
			}
		}
		if len(lasts) == most {
			return false
		}
		lasts = append(lasts, trips[i])
		fine := give(i + 1)
		lasts = lasts[:len(lasts)-1]
		return fine
	}
	return give(0)
}

// wantVehicles checks FewestVehicles, and that vehicles do all trips, and are at least as many as trips are under way at once.
func wantVehicles(t *testing.T, what string, trips []impl.Trip, moves []int64) int64 {
	t.Helper()
	vehicles, count := vehiclesByHand(trips, moves)
	wantPlan(t, what, planOf(impl.FewestVehicles(trips, moves)), vehicles, count)
	wantTold(t, what+": moves", told(impl.IdleMoves(trips, moves, vehicles)), idleByHand(trips, moves, vehicles))
	var firsts []int
	for vehicle := range count {
		first := -1
		for i, trip := range trips {
			if vehicles[i] == vehicle && (first < 0 || trip.Start < trips[first].Start) {
				first = i
			}
		}
		want(t, what+": a vehicle with trips", first >= 0, true)
		firsts = append(firsts, first)
	}
	want(t, what+": vehicles in the order of first trips", slices.IsSorted(firsts), true)
	want(t, what+": no other vehicles", slices.Max(vehicles), count-1)
	bound, ok := impl.VehicleBound(trips)
	want(t, what+": the bound", ok && bound <= count, true)
	return count
}

func TestFewestVehicles(t *testing.T) {
	r := drawer(302)
	for range 400 {
		trips := drawTrips(r, 1+r.IntN(impl.MaxTrips), 1+r.Int64N(40))
		wantVehicles(t, "drawn trips", trips, drawMoves(r, r.Int64N(12)))
		// Without moves, there are as many vehicles as trips that are under way at once.
		count := wantVehicles(t, "no moves", trips, movesOf())
		wantTold(t, "the bound is reached", told(impl.VehicleBound(trips)), count)
	}
	touching := []impl.Trip{{Start: 0, End: 5}, {Start: 5, End: 9}, {Start: 9, End: 10}, {Start: 10, End: 12}}
	wantPlan(t, "trips that touch", planOf(impl.FewestVehicles(touching, movesOf())), []int64{0, 0, 0, 0}, 1)
	touching[2].From = 1
	wantPlan(t, "trips that touch elsewhere", planOf(impl.FewestVehicles(touching, movesOf(0, 1, 1))), []int64{0, 0, 1, 0}, 2)
	same := repeated(impl.Trip{Start: 3, End: 4, From: 1, To: 1}, impl.MaxTrips)
	wantPlan(t, "all at once", planOf(impl.FewestVehicles(same, movesOf())), upwards(impl.MaxTrips), impl.MaxTrips)
	wantPlan(t, "one trip", planOf(impl.FewestVehicles(same[:1], movesOf())), []int64{0}, 1)
	wantPlan(t, "the first trips come last", planOf(impl.FewestVehicles([]impl.Trip{{Start: 4, End: 5}, {Start: 0, End: 1}, {Start: 2, End: 3}}, movesOf())), []int64{0, 0, 0}, 1)
	// The first trip is followed by the third one, which the second one needs.
	exchange := []impl.Trip{{Start: 0, End: 1, To: 0}, {Start: 0, End: 1, To: 1}, {Start: 2, End: 3, From: 2}, {Start: 2, End: 3, From: 3}}
	wantPlan(t, "an exchange", planOf(impl.FewestVehicles(exchange, movesOf(1, 3, 5))), []int64{0, 1, 1, 0}, 2)
	wantPlan(t, "an exchange that is not needed", planOf(impl.FewestVehicles(exchange, movesOf())), []int64{0, 1, 1, 0}, 2)
	wantPlan(t, "no exchange", planOf(impl.FewestVehicles(exchange, movesOf(0, 3, 5))), []int64{0, 1, 0, 1}, 2)
	wantPlan(t, "no trip to exchange", planOf(impl.FewestVehicles(exchange, movesOf(0, 3, 5, 1, 3, 5))), []int64{0, 1, 0, 2}, 3)
}

// TestVehiclesAreFewest checks that no fewer vehicles can do all trips.
func TestVehiclesAreFewest(t *testing.T) {
	r := drawer(303)
	more := 0
	for range 2000 {
		trips, moves := drawTrips(r, 1+r.IntN(8), 16), drawMoves(r, r.Int64N(12))
		_, count, ok := impl.FewestVehicles(trips, moves)
		inOrder := slices.Clone(trips)
		slices.SortStableFunc(inOrder, func(a, b impl.Trip) int { return int(a.Start - b.Start) })
		want(t, "enough vehicles", ok && canDoWith(inOrder, moves, int(count)), true)
		want(t, "no fewer ones", canDoWith(inOrder, moves, int(count)-1), false)
		if bound, _ := impl.VehicleBound(trips); bound < count {
			more++
		}
	}
	want(t, "moves that need vehicles", more > 100, true)
}

func TestVehicleBound(t *testing.T) {
	cases := []struct {
		what  string
		trips []impl.Trip
		bound int64
	}{
		{"one trip", []impl.Trip{{Start: 0, End: 1}}, 1},
		{"trips that touch", []impl.Trip{{Start: 0, End: 5}, {Start: 5, End: 9}, {Start: 9, End: 10}}, 1},
		{"trips that just overlap", []impl.Trip{{Start: 0, End: 6}, {Start: 5, End: 10}, {Start: 9, End: 10}}, 2},
		{"all at once", repeated(impl.Trip{Start: 9999, End: 10000}, impl.MaxTrips), impl.MaxTrips},
		{"the later ones", []impl.Trip{{Start: 0, End: 2}, {Start: 1, End: 2}, {Start: 4, End: 10}, {Start: 5, End: 6}, {Start: 5, End: 10}}, 3},
		{"the last one in the list starts first", []impl.Trip{{Start: 4, End: 6}, {Start: 0, End: 5}}, 2},
	}
	for _, c := range cases {
		wantTold(t, c.what, told(impl.VehicleBound(c.trips)), c.bound)
	}
	r := drawer(304)
	for range 500 {
		trips := drawTrips(r, 1+r.IntN(impl.MaxTrips), 30)
		var most int64
		for at := range int64(40) {
			most = max(most, needsOfTrips(trips, at))
		}
		wantTold(t, "drawn trips", told(impl.VehicleBound(trips)), most)
	}
}

// needsOfTrips returns how many trips are under way at a time.
func needsOfTrips(trips []impl.Trip, at int64) int64 {
	var count int64
	for _, trip := range trips {
		for time := trip.Start; time < trip.End; time++ {
			if time == at {
				count++
			}
		}
	}
	return count
}

// drawVehicles gives trips to vehicles that can do them, but for one trip, now and then, which any one gets that has trips.
func drawVehicles(r *rand.Rand, trips []impl.Trip, moves []int64) []int64 {
	vehicles, _ := vehiclesByHand(trips, moves)
	names := drawOrder(r, impl.MaxTrips)
	for i, vehicle := range vehicles {
		vehicles[i] = names[vehicle]
	}
	if r.IntN(3) == 0 {
		vehicles[r.IntN(len(vehicles))] = vehicles[0]
	}
	return vehicles
}

func TestIdleMoves(t *testing.T) {
	trips := []impl.Trip{{Start: 20, End: 30, From: 1, To: 2}, {Start: 0, End: 10, From: 3, To: 4}, {Start: 5, End: 6, From: 5, To: 6}, {Start: 17, End: 18, From: 7, To: 1}}
	moves := movesOf(4, 1, 10, 4, 7, 7, 6, 1, 14, 6, 7, 3, 1, 1, 0)
	cases := []struct {
		what     string
		vehicles []int64
		sum      int64
	}{
		{"a vehicle for each trip", []int64{0, 1, 2, 3}, 0}, {"a move that just ends in time", []int64{5, 5, 6, 7}, 10}, {"two moves", []int64{23, 23, 0, 0}, 13},
		{"trips that come in another order", []int64{0, 0, 1, 0}, 7}, {"one behind another one", []int64{0, 2, 0, 1}, 14},
	}
	for _, c := range cases {
		wantTold(t, c.what, told(impl.IdleMoves(trips, moves, c.vehicles)), c.sum)
	}
	for _, vehicles := range [][]int64{{0, 0, 0, 0}, {1, 0, 0, 1}, {0, 0, 0, 1}} {
		wantNotTold(t, "two trips at once", told(impl.IdleMoves(trips, moves, vehicles)))
	}
	wantNotTold(t, "a move that is too long by 1", told(impl.IdleMoves(trips, movesOf(4, 1, 11), []int64{0, 0, 1, 2})))
	touching := []impl.Trip{{Start: 5, End: 9, From: 1, To: 1}, {Start: 0, End: 5, From: 1, To: 1}}
	wantTold(t, "trips that touch", told(impl.IdleMoves(touching, moves, []int64{0, 0})), 0)
	wantNotTold(t, "trips that start at once", told(impl.IdleMoves(repeated(touching[0], 2), moves, []int64{4, 4})))
	r := drawer(305)
	counts := map[bool]int{}
	for range 1000 {
		trips, moves := drawTrips(r, 1+r.IntN(impl.MaxTrips), 60), drawMoves(r, r.Int64N(12))
		vehicles := drawVehicles(r, trips, moves)
		sum := idleByHand(trips, moves, vehicles)
		counts[sum >= 0]++
		if sum < 0 {
			wantNotTold(t, "a vehicle that can't", told(impl.IdleMoves(trips, moves, vehicles)))
			continue
		}
		wantTold(t, "moves", told(impl.IdleMoves(trips, moves, vehicles)), sum)
	}
	want(t, "with and without a vehicle that can't", counts[true] > 100 && counts[false] > 100, true)
	var far []impl.Trip
	for i := range int64(6) {
		far = append(far, impl.Trip{Start: 1200 * i, End: 1200*i + 200, From: i % 2, To: i % 2})
	}
	wantTold(t, "the longest moves", told(impl.IdleMoves(far, movesOf(0, 1, 1000, 1, 0, 1000), make([]int64, 6))), 5000)
}

func TestTripsFail(t *testing.T) {
	good := []impl.Trip{{Start: 0, End: 1}, {Start: 2, End: 3}}
	for _, trips := range badTrips() {
		wantNotTold(t, "wrong trips: CanFollow", told(impl.CanFollow(trips, movesOf())))
		wantNoPlan(t, "wrong trips: FewestVehicles", planOf(impl.FewestVehicles(trips, movesOf())))
		wantNotTold(t, "wrong trips: VehicleBound", told(impl.VehicleBound(trips)))
		wantNotTold(t, "wrong trips: IdleMoves", told(impl.IdleMoves(trips, movesOf(), upwards(len(trips)))))
	}
	for _, moves := range badMoves() {
		wantNotTold(t, "wrong moves: CanFollow", told(impl.CanFollow(good, moves)))
		wantNoPlan(t, "wrong moves: FewestVehicles", planOf(impl.FewestVehicles(good, moves)))
		wantNotTold(t, "wrong moves: IdleMoves", told(impl.IdleMoves(good, moves, []int64{0, 1})))
	}
	wrong := [][]int64{nil, {}, {0}, {0, 1, 2}, {0, 0, 0}}
	for _, n := range []int64{-1, impl.MaxTrips, math.MinInt64, math.MaxInt64} {
		wrong = append(wrong, []int64{n, 0}, []int64{0, n}, []int64{n, n})
	}
	for _, vehicles := range wrong {
		wantNotTold(t, "wrong vehicles", told(impl.IdleMoves(good, movesOf(), vehicles)))
	}
	wantTold(t, "the last vehicle", told(impl.IdleMoves(good, movesOf(), []int64{0, impl.MaxTrips - 1})), 0)
}
