package tests

import (
	"fmt"
	"math"
	"slices"
	"testing"

	"loop.example/g01389/impl"
)

func TestAreTalks(t *testing.T) {
	for _, talks := range [][]int64{{0, 1}, {9999, 10000}, {0, 10000}, exampleTalks(), {5, 6, 1, 2}, {1, 2, 1, 2}, slices.Repeat([]int64{3, 4}, impl.MaxTalks)} {
		want(t, fmt.Sprint("talks ", talks), impl.AreTalks(talks), true)
	}
	for _, talks := range append(badTalks(), slices.Repeat([]int64{0, 1}, 100000)) {
		want(t, fmt.Sprintf("no talks %.40v", talks), impl.AreTalks(talks), false)
	}
}

// roomsByHand gives rooms to talks, the first one of those that begin first at first: of each room, the talks are looked at.
func roomsByHand(talks []int64) ([]int64, int64) {
	rooms := repeated[int64](-1, len(talks)/2)
	var count int64
	for begin := range slices.Max(talks) {
		for talk := range rooms {
			if talks[2*talk] != begin {
				continue
			}
			isTaken := func(room int64) bool {
				for other, its := range rooms {
					if its == room && doMeet(talks, talk, other) {
						return true
					}
				}
				return false
			}
			room := int64(0)
			for isTaken(room) {
				room++
			}
			rooms[talk], count = room, max(count, room+1)
		}
	}
	return rooms, count
}

func TestRoomsOf(t *testing.T) {
	wantPlan(t, "three talks", planOf(impl.RoomsOf(exampleTalks())), []int64{0, 1, 0}, 2)
	wantPlan(t, "talks that touch", planOf(impl.RoomsOf([]int64{5, 9, 0, 5, 9, 10})), []int64{0, 0, 0}, 1)
	wantPlan(t, "talks that begin at once", planOf(impl.RoomsOf([]int64{3, 5, 1, 4, 3, 4, 1, 9, 4, 5})), []int64{2, 0, 3, 1, 0}, 4)
	wantPlan(t, "talks that share one time", planOf(impl.RoomsOf([]int64{0, 6, 5, 9})), []int64{0, 1}, 2)
	wantPlan(t, "the least one of several rooms", planOf(impl.RoomsOf([]int64{0, 9, 1, 8, 2, 7, 8, 10, 9, 11, 7, 12})), []int64{0, 1, 2, 1, 0, 2}, 3)
	wantPlan(t, "as many as there can be", planOf(impl.RoomsOf(slices.Repeat([]int64{0, 10000}, impl.MaxTalks))), upwards(impl.MaxTalks), impl.MaxTalks)
	r := drawer(420)
	for range 500 {
		talks := drawTalks(r, 1+r.IntN(impl.MaxTalks), 1+r.Int64N(40))
		rooms, count := roomsByHand(talks)
		wantPlan(t, fmt.Sprint("drawn talks ", talks), planOf(impl.RoomsOf(talks)), rooms, count)
		// There are as many rooms as talks at once.
		most, _, ok := impl.MostAtOnce(talks)
		want(t, "rooms and talks at once", ok && most == count, true)
	}
}

// wantMost fails if MostAtOnce has failed, or has returned something else.
func wantMost(t *testing.T, what string, talks []int64, most, when int64) {
	t.Helper()
	m, w, ok := impl.MostAtOnce(talks)
	want(t, what, fmt.Sprint(m, w, ok), fmt.Sprint(most, when, true))
}

func TestMostAtOnce(t *testing.T) {
	wantMost(t, "three talks", exampleTalks(), 2, 3)
	wantMost(t, "one talk", []int64{7, 9}, 1, 7)
	wantMost(t, "a talk at 0", []int64{5, 6, 0, 1}, 1, 0)
	wantMost(t, "talks that touch", []int64{5, 9, 2, 5}, 1, 2)
	wantMost(t, "the first one of several times", []int64{8, 10, 9, 11, 2, 4, 3, 6, 1, 2}, 2, 3)
	wantMost(t, "the last time", []int64{9999, 10000, 0, 10000}, 2, 9999)
	wantMost(t, "as many as there can be", slices.Repeat([]int64{4, 5}, impl.MaxTalks), impl.MaxTalks, 4)
	r := drawer(421)
	for range 500 {
		talks := drawTalks(r, 1+r.IntN(impl.MaxTalks), 1+r.Int64N(60))
		var most, when int64
		for at := range slices.Max(talks) + 2 {
			var count int64
			for talk := range len(talks) / 2 {
				if isThere(talks, talk, at) {
					count++
				}
			}
			if count > most {
				most, when = count, at
			}
		}
		wantMost(t, fmt.Sprint("drawn talks ", talks), talks, most, when)
	}
}

// meetsOne reports whether a talk meets one of others, itself being none.
func meetsOne(talks []int64, talk int, others []int64) bool {
	return slices.ContainsFunc(others, func(other int64) bool { return int(other) != talk && doMeet(talks, talk, int(other)) })
}

// heardByHand takes talks, one after another.
func heardByHand(talks []int64) []int64 {
	var heard []int64
	for {
		next := -1
		for talk := range len(talks) / 2 {
			if slices.Contains(heard, int64(talk)) || meetsOne(talks, talk, heard) {
				continue
			}
			if next < 0 || talks[2*talk+1] < talks[2*next+1] {
				next = talk
			}
		}
		if next < 0 {
			return heard
		}
		heard = append(heard, int64(next))
	}
}

// talkSets ranges over all sets of talks, no two of which meet, as binary digits, and ascending lists.
func talkSets(talks []int64) func(yield func(set int, chosen []int64) bool) {
	return func(yield func(set int, chosen []int64) bool) {
		n := len(talks) / 2
		for set := range 1 << n {
			chosen := slices.DeleteFunc(upwards(n), func(talk int64) bool { return set>>talk&1 == 0 })
			isRight := !slices.ContainsFunc(chosen, func(talk int64) bool { return meetsOne(talks, int(talk), chosen) })
			if isRight && !yield(set, chosen) {
				return
			}
		}
	}
}

func TestMostTalks(t *testing.T) {
	wantTold(t, "three talks", told(impl.MostTalks(exampleTalks())), []int64{0, 2})
	wantTold(t, "in the order of ends", told(impl.MostTalks([]int64{5, 9, 3, 7, 0, 5})), []int64{2, 0})
	wantTold(t, "the first one of equal ones", told(impl.MostTalks([]int64{3, 5, 2, 5, 4, 5, 5, 6, 0, 1})), []int64{4, 0, 3})
	wantTold(t, "the least end, not the first beginning", told(impl.MostTalks([]int64{0, 9, 4, 5, 5, 8, 8, 9})), []int64{1, 2, 3})
	wantTold(t, "not the shortest one", told(impl.MostTalks([]int64{4, 6, 0, 5, 5, 10})), []int64{1, 2})
	wantTold(t, "one talk", told(impl.MostTalks([]int64{0, 10000})), []int64{0})
	wantTold(t, "the same talk again and again", told(impl.MostTalks(slices.Repeat([]int64{7, 8}, impl.MaxTalks))), []int64{0})
	r := drawer(422)
	for range 500 {
		talks := drawTalks(r, 1+r.IntN(impl.MaxTalks), 1+r.Int64N(60))
		wantTold(t, fmt.Sprint("drawn talks ", talks), told(impl.MostTalks(talks)), heardByHand(talks))
	}
	for range 40 {
		talks := drawTalks(r, 1+r.IntN(8), 1+r.Int64N(20))
		most := 0
		for _, chosen := range talkSets(talks) {
			most = max(most, len(chosen))
		}
		heard, ok := impl.MostTalks(talks)
		want(t, "no others are more", ok && len(heard) == most && !slices.ContainsFunc(heard, func(talk int64) bool { return meetsOne(talks, int(talk), heard) }), true)
	}
}

func TestWorthTalks(t *testing.T) {
	for _, c := range []struct {
		what                  string
		talks, worths, chosen []int64
		worth                 int64
	}{
		{"three talks", exampleTalks(), []int64{1, 5, 1}, []int64{1}, 5}, {"two of them", exampleTalks(), []int64{3, 5, 3}, []int64{0, 2}, 6},
		{"the one with the least digit", exampleTalks(), []int64{3, 5, 2}, []int64{1}, 5}, {"two are as good as a later one", []int64{0, 1, 1, 2, 0, 2}, []int64{1, 1, 2}, []int64{0, 1}, 2},
		{"one is as good as two later ones", []int64{0, 2, 0, 1, 1, 2}, []int64{2, 1, 1}, []int64{0}, 2}, {"without what is worth nothing", []int64{0, 1, 1, 2, 2, 3}, []int64{0, 7, 0}, []int64{1}, 7},
		{"worth nothing", exampleTalks(), []int64{0, 0, 0}, nil, 0}, {"one talk", []int64{0, 10000}, []int64{1000}, []int64{0}, 1000},
		{"as many as there can be", slices.Repeat([]int64{5, 6}, 16), upwards(16), []int64{15}, 15},
	} {
		wantPlan(t, c.what, planOf(impl.WorthTalks(c.talks, c.worths)), c.chosen, c.worth)
	}
	var apart []int64
	for begin := range int64(16) {
		apart = append(apart, 10*begin, 10*begin+10)
	}
	wantPlan(t, "all of as many as there can be", planOf(impl.WorthTalks(apart, repeated[int64](1000, 16))), upwards(16), 16000)
	r := drawer(423)
	for range 150 {
		n := 1 + r.IntN(9)
		talks, worths := drawTalks(r, n, 1+r.Int64N(20)), drawList(r, n, 0, r.Int64N(5))
		best, most := 0, int64(0)
		for set, chosen := range talkSets(talks) {
			var worth int64
			for _, talk := range chosen {
				worth += worths[talk]
			}
			if worth > most || worth == most && set < best {
				best, most = set, worth
			}
		}
		chosen := slices.DeleteFunc(upwards(n), func(talk int64) bool { return best>>talk&1 == 0 })
		wantPlan(t, fmt.Sprint("drawn talks ", talks, worths), planOf(impl.WorthTalks(talks, worths)), chosen, most)
	}
	for _, worths := range [][]int64{nil, {1, 5}, {1, 5, 1, 1}, {1, -1, 1}, {1001, 1, 1}, {1, 1, math.MaxInt64}, {1, math.MinInt64, 1}} {
		wantNoPlan(t, fmt.Sprint("wrong worths ", worths), planOf(impl.WorthTalks(exampleTalks(), worths)))
	}
	for _, n := range []int{17, impl.MaxTalks} {
		wantNoPlan(t, "too many talks", planOf(impl.WorthTalks(slices.Repeat([]int64{0, 1}, n), make([]int64, n))))
	}
}

func TestTalksFail(t *testing.T) {
	for _, talks := range badTalks() {
		what := fmt.Sprintf("%.40v", talks)
		wantNoPlan(t, "RoomsOf "+what, planOf(impl.RoomsOf(talks)))
		wantNoPair[int64, int64](t, "MostAtOnce "+what)(impl.MostAtOnce(talks))
		wantNotTold(t, "MostTalks "+what, told(impl.MostTalks(talks)))
		for _, n := range []int{len(talks) / 2, (len(talks) + 1) / 2, 0, 1} {
			wantNoPlan(t, "WorthTalks "+what, planOf(impl.WorthTalks(talks, make([]int64, n))))
		}
		wantNotTold(t, "FreeTime "+what, told(impl.FreeTime([][]int64{talks}, 0, 10000, 1)))
		wantNotTold(t, "FreeTime of several "+what, told(impl.FreeTime([][]int64{exampleTalks(), talks, exampleTalks()}, 0, 10000, 1)))
	}
}
