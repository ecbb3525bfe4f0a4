package tests

import (
	"math"
	"slices"
	"strings"
	"testing"

	"loop.example/g01389/impl"
)

// A roundAsking is what functions of chapter 7 are asked for.
type roundAsking struct {
	games, far, clashes, colours, order        []int64
	talks, few, worths, zones, starts          []int64 // few are talks for which there are worths
	many, lists                                [][]int64
	tasks                                      []impl.Task
	saved                                      []impl.Saved
	bytes                                      string
	teams, round, exams, most, workers         int64
	from, to, long, minute, zone, open, closed int64
	task, by, crew                             int64
}

// integers returns all lists of integers of an asking.
func (a *roundAsking) integers() []*[]int64 {
	return []*[]int64{&a.games, &a.far, &a.clashes, &a.colours, &a.order, &a.talks, &a.few, &a.worths, &a.zones, &a.starts}
}

// changed returns an asking with other lists.
func (a roundAsking) changed(integers func([]int64) []int64, lists func([][]int64) [][]int64, tasks func([]impl.Task) []impl.Task, saved func([]impl.Saved) []impl.Saved) roundAsking {
	changedTasks := func(list []impl.Task) []impl.Task {
		list = tasks(list)
		for i := range list {
			list[i].Before, list[i].Lags = integers(list[i].Before), integers(list[i].Lags)
		}
		return list
	}
	for _, list := range a.integers() {
		*list = integers(*list)
	}
	a.many, a.lists, a.tasks, a.saved = lists(a.many), lists(a.lists), changedTasks(a.tasks), saved(a.saved)
	for _, many := range [][][]int64{a.many, a.lists} {
		for i, list := range many {
			many[i] = integers(list)
		}
	}
	for i, s := range a.saved {
		a.saved[i] = impl.Saved{Name: strings.Clone(s.Name), Tasks: changedTasks(s.Tasks), Starts: integers(s.Starts)}
	}
	a.bytes = strings.Clone(a.bytes)
	return a
}

// copied returns an asking that shares no memory with a, without any room behind its lists.
func (a roundAsking) copied() roundAsking { return a.changed(tight, tight, tight, tight) }

// withRoom returns a copy of an asking, the lists of which have room behind them.
func (a roundAsking) withRoom() roundAsking {
	return a.changed(roomy[int64](5), roomy([]int64{1, 0}), roomy(impl.Task{Time: 5}), roomy(impl.Saved{Name: "room"}))
}

// addTasks tells tasks with the room behind their lists.
func addTasks(w *telling, list []impl.Task) {
	for _, task := range list[:cap(list)] {
		w.add(task.Time, task.Needs, task.Before[:cap(task.Before)], task.Lags[:cap(task.Lags)])
	}
}

// whole returns all lists of an asking, with the room behind them.
func (a roundAsking) whole() string {
	w := &telling{}
	for _, list := range a.integers() {
		w.add((*list)[:cap(*list)])
	}
	for _, many := range [][][]int64{a.many[:cap(a.many)], a.lists[:cap(a.lists)]} {
		for _, list := range many {
			w.add(list[:cap(list)])
		}
	}
	addTasks(w, a.tasks)
	for _, s := range a.saved[:cap(a.saved)] {
		w.add(s.Name, s.Starts[:cap(s.Starts)])
		addTasks(w, s.Tasks)
	}
	return w.String()
}

// spoilSaved tells plans with names, and then changes all of their memory.
func spoilSaved(w *telling, list []impl.Saved) {
	for _, s := range list {
		w.add(s.Name)
		for _, task := range s.Tasks {
			w.add(task.Time, task.Needs)
			spoil(w, task.Before, -77)
			spoil(w, task.Lags, -77)
		}
		spoil(w, s.Starts, -77)
		spoil(w, s.Tasks, impl.Task{Time: -77})
	}
	spoil(w, list, impl.Saved{Name: "spoiled"})
}

// ofRounds tells the results of all functions of chapter 7, and spoils each list that is returned.
func ofRounds(a roundAsking) string {
	w := &telling{}
	list := func(list []int64, ok bool) { w.add(ok); spoil(w, list, -77) }
	both := func(list []int64, n int64, ok bool) { w.add(n, ok); spoil(w, list, -77) }
	number := func(n int64, ok bool) { w.add(n, ok) }
	three := func(n, m int64, ok bool) { w.add(n, m, ok) }
	list(impl.CircleRounds(a.teams))
	w.add(impl.AreRounds(a.teams, a.games), impl.AreClashes(a.exams, a.clashes), impl.AreTalks(a.talks), impl.SameSaved(a.saved, a.saved[:len(a.saved)/2]))
	homes, ok := impl.HomesOf(a.teams, a.games)
	w.add(ok)
	spoil(w, homes, false)
	number(impl.CountBreaks(a.teams, a.games))
	list(impl.BackRounds(a.teams, a.games))
	list(impl.TripsOf(a.teams, a.games, a.far))
	list(impl.TurnedGames(a.teams, a.games, a.round))
	is, ok := impl.IsColour(a.exams, a.clashes, a.colours)
	w.add(is, ok)
	list(impl.ColourBy(a.exams, a.clashes, a.order))
	both(impl.LeastColours(a.exams, a.clashes))
	list(impl.GreatClique(a.exams, a.clashes))
	number(impl.CountColours(a.exams, a.clashes, a.most))
	list(impl.ColoursShared(a.many, a.exams, a.workers))
	both(impl.RoomsOf(a.talks))
	three(impl.MostAtOnce(a.talks))
	list(impl.MostTalks(a.talks))
	both(impl.WorthTalks(a.few, a.worths))
	number(impl.FreeTime(a.lists, a.from, a.to, a.long))
	three(impl.LocalTime(a.minute, a.zone))
	number(impl.MeetingTime(a.zones, a.open, a.closed, a.long))
	both(impl.MendPlan(a.tasks, a.starts, a.task, a.by, a.crew))
	for _, s := range a.saved {
		stored, ok := impl.StoreSaved(s)
		w.add(impl.ValidSaved(s), stored, ok)
	}
	all, ok := impl.StoreAll(a.saved)
	w.add(all, ok)
	for _, bytes := range []string{a.bytes, all} {
		loaded, ok := impl.LoadSaved(bytes)
		w.add(ok)
		spoilSaved(w, []impl.Saved{loaded})
		recovered, n, ok := impl.RecoverAll(bytes)
		w.add(n, ok)
		spoilSaved(w, recovered)
	}
	return w.String()
}

// drawRoundAsking returns arguments with which most functions succeed, and all lists have room behind them.
func drawRoundAsking(seed uint64) roundAsking {
	r := drawer(seed)
	f := drawField(r, drawTeams(r), 1+r.IntN(20))
	a := roundAsking{teams: f.teams, games: f.games, round: r.Int64N(int64(f.rounds())), far: drawList(r, int(f.teams*f.teams), 0, 1000)}
	a.exams, a.most, a.workers = 1+r.Int64N(impl.MaxExams), 1+r.Int64N(4), 1+r.Int64N(impl.MaxWorkers)
	a.clashes, a.colours, a.order = drawClashes(r, a.exams, r.IntN(33)), drawList(r, int(a.exams), 0, 11), drawOrder(r, int(a.exams))
	for range r.IntN(9) {
		a.many = append(a.many, drawClashes(r, a.exams, r.IntN(33)))
		a.lists = append(a.lists, drawTalks(r, 1+r.IntN(9), 60))
	}
	a.talks, a.few = drawTalks(r, 1+r.IntN(impl.MaxTalks), 60), drawTalks(r, 1+r.IntN(10), 20)
	a.worths, a.zones = drawList(r, len(a.few)/2, 0, 9), drawList(r, 1+r.IntN(impl.MaxZones), -300, 300)
	a.from, a.to, a.long, a.minute, a.zone, a.open, a.closed = r.Int64N(50), 50+r.Int64N(50), 1+r.Int64N(9), r.Int64N(2000001)-1000000, r.Int64N(1561)-720, r.Int64N(300), 1000+r.Int64N(400)
	m := drawMending(r)
	a.tasks, a.starts, a.task, a.by, a.crew = m.list, m.starts, m.task, m.by, m.crew
	for range r.IntN(impl.MaxSaved + 1) {
		a.saved = append(a.saved, drawSaved(r))
	}
	a.bytes = storeByHand(drawSaved(r))
	return a.withRoom()
}

// TestRoundsKeepArguments calls all functions of chapter 7 twice with lists that have room behind them.
func TestRoundsKeepArguments(t *testing.T) {
	for seed := range uint64(200) {
		a := drawRoundAsking(6000 + seed)
		before := a.whole()
		first := ofRounds(a)
		want(t, "arguments", a.whole(), before)
		want(t, "results for the same arguments", ofRounds(a), first)
		want(t, "results for equal arguments", ofRounds(a.copied()), first)
		for workers := int64(1); workers <= impl.MaxWorkers; workers++ {
			a.workers = workers
			want(t, "results by other workers", ofRounds(a), first)
		}
		want(t, "arguments in the end", a.whole(), before)
	}
}

// TestLoadedShareNoMemory checks that what is loaded several times, and what is loaded at once, is told apart.
func TestLoadedShareNoMemory(t *testing.T) {
	one := storeByHand(exampleSaved())
	first, _ := impl.LoadSaved(one)
	list, _, _ := impl.RecoverAll(one + one)
	again, _ := impl.LoadSaved(one)
	spoilSaved(&telling{}, []impl.Saved{first})
	spoilSaved(&telling{}, list[:1:1])
	want(t, "the other ones", impl.SameSaved([]impl.Saved{again, list[1]}, []impl.Saved{exampleSaved(), exampleSaved()}), true)
}

// TestRoundsReturnForAll calls all functions of chapter 7 with arguments of all kinds.
func TestRoundsReturnForAll(t *testing.T) {
	r := drawer(461)
	wild, wildLists := pickers(r, append(wildNumbers(), 3, 4, 6, 12, 13, 16, 17, 18, 32, 33, 64, 65, 100, 101, 840, 841, -720, -721, 1000, 1001, 1439, 1440, 1441, 65535, 65536, -1000000, -1000001))
	small, smallLists := pickers(r, []int64{0, 1, 1, 2, 2, 3})
	for range 4000 {
		// Small numbers are often right, or nearly so.
		any, lists := small, smallLists
		if r.IntN(2) == 0 {
			any, lists = wild, wildLists
		}
		n := []int{0, 1, 2, 3, 4, 8, 9, 12, 16, 17, 32, 64, 65, 66}[r.IntN(14)]
		a := roundAsking{games: lists(n), far: lists(n), clashes: lists(n), colours: lists(n), order: lists(n), talks: lists(n), few: lists(n), worths: lists(n / 2), zones: lists(n), starts: lists(n), teams: any(), round: any(), exams: any(), most: any(), workers: any()}
		a.from, a.to, a.long, a.minute, a.zone, a.open, a.closed, a.task, a.by, a.crew = any(), any(), any(), any(), any(), any(), any(), any(), any(), any()
		for range r.IntN(10) {
			a.many, a.lists = append(a.many, lists(r.IntN(6))), append(a.lists, lists(r.IntN(6)))
			tasks := drawTasks(r, r.IntN(5), -2)
			for range r.IntN(2) {
				tasks = append(tasks, impl.Task{Time: any(), Needs: any(), Before: lists(r.IntN(3)), Lags: lists(r.IntN(3))})
			}
			a.saved = append(a.saved, impl.Saved{Name: strings.Repeat("a", r.IntN(10)), Tasks: tasks, Starts: lists(len(tasks) + r.IntN(2))})
			a.tasks, a.starts = tasks, lists(len(tasks))
		}
		bytes := []byte(storeByHand(drawSaved(r)))
		for range r.IntN(3) {
			bytes[r.IntN(len(bytes))] = byte(any())
		}
		a.bytes = string(bytes[:r.IntN(len(bytes)+1)])
		want(t, "results for equal arguments", ofRounds(a.copied()), ofRounds(a))
	}
}

// TestRoundsReturnForLongLists calls them with lists and texts that are far too long.
func TestRoundsReturnForLongLists(t *testing.T) {
	const far = 300000
	long, lists := repeated[int64](0, far), repeated([]int64{0, 1}, far)
	a := roundAsking{many: lists, lists: lists, tasks: repeated(impl.Task{}, far), saved: repeated(exampleSaved(), 9), bytes: strings.Repeat(storeByHand(exampleSaved()), far/20), teams: 2, exams: 2, most: 1, workers: 1, to: far, long: 1, closed: 1440}
	for _, list := range a.integers() {
		*list = long
	}
	want(t, "results for long lists", ofRounds(a.copied()), ofRounds(a))
	// The other arguments are right.
	wantNotTold(t, "long distances", told(impl.TripsOf(2, []int64{1, 0}, long)))
	wantNotTold(t, "long colours", told(impl.IsColour(2, nil, long)))
	wantNotTold(t, "long orders", told(impl.ColourBy(2, nil, long)))
	wantNoPlan(t, "long worths", planOf(impl.WorthTalks(exampleTalks(), long)))
	wantNoPlan(t, "long starts", planOf(impl.MendPlan(threeTasks(), long, 0, 1, 2)))
	s := exampleSaved()
	s.Starts = long
	want(t, "long starts that are stored", impl.ValidSaved(s), false)
	s = exampleSaved()
	s.Name = strings.Repeat("a", far)
	want(t, "a long name", impl.ValidSaved(s), false)
}

// TestRoundsReturnForGreatSearches calls the searches with as much as they take.
func TestRoundsReturnForGreatSearches(t *testing.T) {
	ring, rest := []int64{3, 4, 5, 6, 7}, []int64{8, 9, 10, 11}
	hard := slices.Concat(circleOf(ring...), allOf(rest...), eachOf(ring, rest))
	wantTold(t, "colours", told(impl.ColoursShared(repeated(hard, 8), 12, 1)), repeated[int64](7, 8))
	wantTold(t, "ways", told(impl.CountColours(8, nil, 4)), 65536)
	wantPlan(t, "worths", planOf(impl.WorthTalks(slices.Repeat([]int64{0, 1}, 16), make([]int64, 16))), nil, 0)
	_, minute, ok := impl.LocalTime(math.MinInt64, math.MinInt64)
	want(t, "times", !ok && minute == 0, true)
	wantNoPlan(t, "a task that never fits", planOf(impl.MendPlan([]impl.Task{{Needs: impl.MaxCrew}}, []int64{0}, 0, 1, 0)))
}

// TestRoundsTakeNilAsEmpty checks that nil and empty lists are the same.
func TestRoundsTakeNilAsEmpty(t *testing.T) {
	without := roundAsking{teams: 2, exams: 2, most: 1, workers: 1, to: 5, long: 1, closed: 1440}
	none := without
	none.many, none.lists, none.tasks, none.saved = [][]int64{}, [][]int64{}, []impl.Task{}, []impl.Saved{}
	for _, list := range none.integers() {
		*list = []int64{}
	}
	want(t, "results for empty lists", ofRounds(none), ofRounds(without))
	withNil, withEmpty := exampleSaved(), exampleSaved()
	withEmpty.Tasks[0].Before, withEmpty.Tasks[0].Lags = []int64{}, []int64{}
	withNil.Tasks[0].Before, withNil.Tasks[0].Lags = nil, nil
	one, _ := impl.StoreSaved(withNil)
	wantTold(t, "empty Before", told(impl.StoreSaved(withEmpty)), one)
	wantTold(t, "nil and empty lists of clashes", told(impl.ColoursShared([][]int64{nil, {}}, 2, 1)), []int64{1, 1})
}
