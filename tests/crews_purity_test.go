package tests

import (
	"slices"
	"strings"
	"testing"

	"loop.example/g01389/impl"
)

// A crewAsking is what functions of chapter 6 are asked for.
type crewAsking struct {
	trips                                       []impl.Trip
	moves, vehicles, counts, needs, away, calls []int64
	people, tasks                               []int64
	rule                                        impl.ShiftRule
	rules                                       []impl.ShiftRule
	shift, pattern, days                        string
	shifts                                      []string
	first, crew, long, step, servers, workers   int64
	load, chance                                float32
}

// integers returns all lists of integers of an asking.
func (a *crewAsking) integers() []*[]int64 {
	return []*[]int64{&a.moves, &a.vehicles, &a.counts, &a.needs, &a.away, &a.calls, &a.people, &a.tasks}
}

// changed returns an asking with other lists.
func (a crewAsking) changed(trips func([]impl.Trip) []impl.Trip, rules func([]impl.ShiftRule) []impl.ShiftRule, texts func([]string) []string, integers func([]int64) []int64) crewAsking {
	a.trips, a.rules, a.shifts = trips(a.trips), rules(a.rules), texts(a.shifts)
	for _, list := range a.integers() {
		*list = integers(*list)
	}
	return a
}

// copied returns an asking that shares no memory with a, without any room behind its lists.
func (a crewAsking) copied() crewAsking {
	b := a.changed(tight, tight, tight, tight)
	for i, shift := range b.shifts {
		b.shifts[i] = strings.Clone(shift)
	}
	b.shift, b.pattern, b.days = strings.Clone(a.shift), strings.Clone(a.pattern), strings.Clone(a.days)
	return b
}

// withRoom returns a copy of an asking, the lists of which have room behind them.
func (a crewAsking) withRoom() crewAsking {
	return a.changed(roomy(impl.Trip{End: 5}), roomy(impl.ShiftRule{Slots: 5}), roomy("w.w"), roomy[int64](5))
}

// whole returns all lists of an asking, with the room behind them.
func (a crewAsking) whole() string {
	w := &telling{}
	w.add(a.trips[:cap(a.trips)], a.rules[:cap(a.rules)], a.shifts[:cap(a.shifts)])
	for _, list := range a.integers() {
		w.add((*list)[:cap(*list)])
	}
	return w.String()
}

// ofCrews tells the results of all functions of chapter 6, and spoils each list that is returned.
func ofCrews(a crewAsking) string {
	w := &telling{}
	list := func(list []int64, ok bool) { w.add(ok); spoil(w, list, -77) }
	both := func(list []int64, n int64, ok bool) { w.add(n, ok); spoil(w, list, -77) }
	number := func(n int64, ok bool) { w.add(n, ok) }
	texts := func(list []string, ok bool) { w.add(ok); spoil(w, list, "spoiled") }
	chance := func(x float32, ok bool) { w.add(x, ok) }
	w.add(impl.AreTrips(a.trips), impl.SameTrips(a.trips, a.trips[:len(a.trips)/2]), impl.AreMoves(a.moves))
	follow, ok := impl.CanFollow(a.trips, a.moves)
	w.add(ok)
	spoil(w, follow, false)
	both(impl.FewestVehicles(a.trips, a.moves))
	number(impl.VehicleBound(a.trips))
	number(impl.IdleMoves(a.trips, a.moves, a.vehicles))
	w.add(impl.ValidRule(a.rule), impl.SameRule(a.rule, impl.ShiftRule{Slots: 3}))
	is, ok := impl.IsShift(a.rule, a.shift)
	w.add(is, ok)
	number(impl.CountShifts(a.rule))
	texts(impl.FirstShifts(a.rule, a.first))
	next, ok := impl.NextShift(a.rule, a.shift)
	w.add(next, ok)
	list(impl.CoverOf(a.shifts, a.counts))
	shifts, counts, ok := impl.GreedyCover(a.rule, a.needs)
	texts(shifts, ok)
	spoil(w, counts, -77)
	texts(impl.RotateRoster(a.pattern, a.crew, a.long, a.step))
	worked, free, ok := impl.RosterRuns(a.days)
	w.add(worked, free, ok)
	list(impl.OnCalls(a.crew, a.long, a.away))
	number(impl.CallGap(a.calls, a.crew))
	both(impl.MatchSkills(a.people, a.tasks))
	chance(impl.WaitChance(a.load, a.servers))
	chance(impl.BlockChance(a.load, a.servers))
	number(impl.StaffFor(a.load, a.chance))
	chance(impl.MeanWait(a.load, a.servers))
	list(impl.CountsShared(a.rules, a.workers))
	return w.String()
}

// drawCrewAsking returns arguments with which most functions succeed, and all lists have room behind them.
func drawCrewAsking(seed uint64) crewAsking {
	r := drawer(seed)
	a := crewAsking{first: r.Int64N(65), crew: 1 + r.Int64N(impl.MaxPeople), long: 1 + r.Int64N(128), step: r.Int64N(65), servers: 1 + r.Int64N(maxServers), workers: 1 + r.Int64N(impl.MaxWorkers)}
	a.trips, a.moves = drawTrips(r, 1+r.IntN(impl.MaxTrips), 60), drawMoves(r, r.Int64N(12))
	a.vehicles = drawVehicles(r, a.trips, a.moves)
	a.rule = drawShiftRule(r, 1+r.Int64N(impl.MaxSlots))
	shifts, _ := impl.FirstShifts(a.rule, 64)
	a.shift = strings.Repeat(".", int(a.rule.Slots))
	for range 1 + r.IntN(9) {
		if len(shifts) > 0 {
			a.shift = shifts[r.IntN(len(shifts))]
		}
		a.shifts = append(a.shifts, a.shift)
		a.rules = append(a.rules, drawShiftRule(r, 1+r.Int64N(impl.MaxSlots)))
	}
	a.counts, a.needs = drawList(r, len(a.shifts), 0, 1000), make([]int64, a.rule.Slots)
	for slot, letter := range a.shift {
		if letter == 'w' {
			a.needs[slot] = r.Int64N(9)
		}
	}
	a.pattern, a.days = drawDays(r, 1+r.IntN(64)), drawDays(r, 1+r.IntN(128))
	a.away, a.calls = drawList(r, int(a.long), 0, 1<<a.crew/2), drawList(r, r.IntN(100), 0, a.crew-1)
	a.people, a.tasks = drawList(r, 1+r.IntN(impl.MaxPeople), 0, 15), drawList(r, 1+r.IntN(impl.MaxPeople), 0, 7)
	a.load, a.chance = drawLoad(r), r.Float32()
	return a.withRoom()
}

// TestCrewsKeepArguments calls all functions of chapter 6 twice with lists that have room behind them.
func TestCrewsKeepArguments(t *testing.T) {
	for seed := range uint64(200) {
		a := drawCrewAsking(5000 + seed)
		before := a.whole()
		first := ofCrews(a)
		want(t, "arguments", a.whole(), before)
		want(t, "results for the same arguments", ofCrews(a), first)
		want(t, "results for equal arguments", ofCrews(a.copied()), first)
		for workers := int64(1); workers <= impl.MaxWorkers; workers++ {
			a.workers = workers
			want(t, "results by other workers", ofCrews(a), first)
		}
		want(t, "arguments in the end", a.whole(), before)
	}
}

// TestCoversShareNoMemory checks that both lists of GreedyCover, and lists of several calls, are told apart.
func TestCoversShareNoMemory(t *testing.T) {
	shifts, counts, _ := impl.GreedyCover(exampleRule(), []int64{1, 0, 2})
	again, others, _ := impl.GreedyCover(exampleRule(), []int64{1, 0, 2})
	for i := range shifts {
		shifts[i], counts[i] = "spoiled", -77
	}
	wantCovering(t, "the other covers", coveringOf(again, others, true), []string{"..w", "w.w"}, []int64{1, 1})
}

// TestCrewsReturnForAll calls all functions of chapter 6 with arguments of all kinds.
func TestCrewsReturnForAll(t *testing.T) {
	r := drawer(361)
	wild, wildLists := pickers(r, append(wildNumbers(), 3, 7, 12, 13, 23, 63, 64, 65, 96, 97, 100, 101, 128, 129, 255, 256, 1000, 1001, 4095, 4096))
	small, smallLists := pickers(r, []int64{0, 1, 1, 2, 2, 3})
	edges := edgeBits()
	for range 4000 {
		// Small numbers are often right, or nearly so.
		any, lists := small, smallLists
		if r.IntN(2) == 0 {
			any, lists = wild, wildLists
		}
		edge := func() float32 {
			if r.IntN(2) == 0 {
				return r.Float32()
			}
			return number(edges[r.IntN(len(edges))])
		}
		n := []int{0, 1, 2, 3, 12, 13, 24, 25, 64, 65, 128, 129}[r.IntN(12)]
		text := func() string {
			letters := []string{"w.", ".w", "dn.", "w.x", "\xff\x00.w", "é.w"}[r.IntN(6)]
			var s strings.Builder
			for range r.IntN(n + 2) {
				s.WriteByte(letters[r.IntN(len(letters))])
			}
			return s.String()
		}
		rule := func() impl.ShiftRule {
			return impl.ShiftRule{Slots: any(), Least: any(), Most: any(), Row: any(), Pause: any()}
		}
		a := crewAsking{moves: lists(n), vehicles: lists(n), counts: lists(n), needs: lists(n), away: lists(n), calls: lists(n), people: lists(n), tasks: lists(n), rule: rule(), shift: text(), pattern: text(), days: text(), first: any(), crew: any(), long: any(), step: any(), servers: any(), workers: any(), load: edge(), chance: edge()}
		if r.IntN(2) == 0 {
			a.moves, a.long = movesOf(0, 1, 2, 2, 3, 1), int64(n)
		}
		for range n {
			a.trips = append(a.trips, impl.Trip{Start: any(), End: any(), From: any(), To: any()})
			a.shifts, a.rules = append(a.shifts, text()), append(a.rules, rule())
		}
		want(t, "results for equal arguments", ofCrews(a.copied()), ofCrews(a))
	}
}

// TestCrewsReturnForLongLists calls them with lists and texts that are far too long.
func TestCrewsReturnForLongLists(t *testing.T) {
	const far = 300000
	long, text := repeated[int64](0, far), strings.Repeat("w", far)
	a := crewAsking{trips: repeated(impl.Trip{End: 1}, far), rule: exampleRule(), rules: repeated(exampleRule(), far), shift: text, pattern: text, days: text, shifts: repeated("w", far), first: far, crew: 2, long: far, step: 1, servers: far, workers: 1, load: 0.5}
	for _, list := range a.integers() {
		*list = long
	}
	want(t, "results for long lists", ofCrews(a.copied()), ofCrews(a))
	// The other arguments are right.
	trips := []impl.Trip{{End: 1}, {Start: 2, End: 3}}
	wantNotTold(t, "long moves", told(impl.CanFollow(trips, long)))
	wantNotTold(t, "long lists of vehicles", told(impl.IdleMoves(trips, movesOf(), long)))
	wantNotTold(t, "long lists of counts", told(impl.CoverOf([]string{"w"}, long)))
	wantNotTold(t, "long texts", told(impl.CoverOf([]string{text}, []int64{1})))
	wantNotTold(t, "long lists of people who are away", told(impl.OnCalls(2, 3, long)))
	wantNoPlan(t, "long lists of tasks", planOf(impl.MatchSkills([]int64{1}, long)))
}

// TestCrewsReturnForGreatSearches calls the searches with as much as they take.
func TestCrewsReturnForGreatSearches(t *testing.T) {
	var trips []impl.Trip
	for i := range int64(impl.MaxTrips) {
		trips = append(trips, impl.Trip{Start: i / 2, End: i/2 + 1})
	}
	for range 2 {
		_, count, ok := impl.FewestVehicles(trips, movesOf())
		want(t, "vehicles", ok && count == 2, true)
		slices.Reverse(trips)
	}
	// Only one task is left without a person, for whom all others are asked.
	people, tasks := repeated[int64](1, impl.MaxPeople-1), repeated[int64](1, impl.MaxPeople)
	match, count, ok := impl.MatchSkills(append(people, 2), tasks)
	want(t, "matches", ok && count == impl.MaxPeople-1 && match[impl.MaxPeople-1] == -1, true)
	most := impl.ShiftRule{Slots: 24, Most: 24, Row: 24, Pause: 1}
	_, counts, ok := impl.GreedyCover(most, append(make([]int64, 18), repeated[int64](100, 6)...))
	want(t, "covers", ok && slices.Equal(counts, []int64{100}), true)
}

// TestCrewsTakeNilAsEmpty checks that nil and empty lists are the same.
func TestCrewsTakeNilAsEmpty(t *testing.T) {
	without := crewAsking{rule: exampleRule(), shift: "w..", pattern: "d", days: "d", first: 1, crew: 1, long: 1, servers: 1, workers: 1, load: 0.5}
	none := without
	none.trips, none.rules, none.shifts = []impl.Trip{}, []impl.ShiftRule{}, []string{}
	for _, list := range none.integers() {
		*list = []int64{}
	}
	want(t, "results for empty lists", ofCrews(none), ofCrews(without))
}
