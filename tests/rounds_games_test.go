package tests

import (
	"fmt"
	"math"
	"slices"
	"testing"

	"loop.example/g01389/impl"
)

// circleByHand returns the rounds of teams: each game is looked for by what its teams are.
func circleByHand(teams int64) []int64 {
	last := teams - 1
	var games []int64
	for round := range last {
		for k := range teams / 2 {
			former, latter := round, last
			for team := range last {
				if k > 0 && (team-round+last)%last == k {
					former = team
				}
				if k > 0 && (round-team+last)%last == k {
					latter = team
				}
			}
			isHome := k%2 == 1
			if k == 0 {
				isHome = round%2 == 1
			}
			if !isHome {
				former, latter = latter, former
			}
			games = append(games, former, latter)
		}
	}
	return games
}

func TestCircleRounds(t *testing.T) {
	wantTold(t, "two teams", told(impl.CircleRounds(2)), []int64{1, 0})
	six := []int64{5, 0, 1, 4, 3, 2, 1, 5, 2, 0, 4, 3, 5, 2, 3, 1, 0, 4, 3, 5, 4, 2, 1, 0, 5, 4, 0, 3, 2, 1}
	wantTold(t, "six teams", told(impl.CircleRounds(6)), six)
	for teams := int64(2); teams <= impl.MaxTeams; teams += 2 {
		games, ok := impl.CircleRounds(teams)
		wantTold(t, "teams", told(games, ok), circleByHand(teams))
		want(t, "rounds", impl.AreRounds(teams, games) && len(games) == int(teams*(teams-1)), true)
		for team := range teams {
			for other := range team {
				meetings := 0
				for game := range slices.Chunk(games, 2) {
					if slices.Equal(game, []int64{team, other}) || slices.Equal(game, []int64{other, team}) {
						meetings++
					}
				}
				want(t, fmt.Sprintf("how often %d and %d of %d meet", other, team, teams), meetings, 1)
			}
		}
	}
	for _, teams := range []int64{0, 1, 3, 5, 15, 17, 18, 24, -1, -2, math.MinInt64, math.MaxInt64, math.MaxInt64 - 1} {
		wantNotTold(t, fmt.Sprintf("%d teams", teams), told(impl.CircleRounds(teams)))
	}
}

func TestAreRounds(t *testing.T) {
	for _, f := range []field{{2, []int64{0, 1}}, {2, []int64{1, 0}}, {2, []int64{0, 1, 1, 0}}, {2, []int64{1, 0, 0, 1}}, {16, upwards(16)}, {4, []int64{0, 1, 2, 3, 1, 0, 2, 3}[:4]}, {4, []int64{0, 1, 2, 3, 3, 2, 1, 0}}} {
		want(t, fmt.Sprint("rounds ", f), impl.AreRounds(f.teams, f.games), true)
	}
	for _, f := range badFields() {
		want(t, fmt.Sprint("no rounds ", f), impl.AreRounds(f.teams, f.games), false)
	}
	for teams := int64(2); teams <= impl.MaxTeams; teams += 2 {
		f := field{teams, circleByHand(teams)}
		for game := range slices.Chunk(f.games[:len(f.games):len(f.games)], 2) {
			f.games = append(f.games, game[1], game[0])
		}
		want(t, "as many rounds as there can be", impl.AreRounds(teams, f.games), true)
		want(t, "one round more", impl.AreRounds(teams, append(slices.Clone(f.games), f.round(0)...)), false)
	}
	want(t, "a long list", impl.AreRounds(2, slices.Repeat([]int64{0, 1, 1, 0}, 100000)), false)
}

// areRoundsByHand reports whether each team is in each round once, and no game is there twice.
func areRoundsByHand(f field) bool {
	for number := range f.rounds() {
		for team := range f.teams {
			if countOf(f.round(number), team) != 1 {
				return false
			}
		}
	}
	for at := 0; at < len(f.games); at += 2 {
		for other := 0; other < at; other += 2 {
			if slices.Equal(f.games[at:at+2], f.games[other:other+2]) {
				return false
			}
		}
	}
	return true
}

func TestAreRoundsDrawn(t *testing.T) {
	r := drawer(400)
	counts := map[bool]int{}
	for range 1500 {
		f := drawField(r, drawTeams(r), 1+r.IntN(30))
		want(t, "drawn rounds", impl.AreRounds(f.teams, f.games), true)
		// Teams change places, in a round or not.
		for range 1 + r.IntN(2) {
			at, with := r.IntN(len(f.games)), r.IntN(len(f.games))
			if r.IntN(2) == 0 {
				with = at ^ 1
			}
			f.games[at], f.games[with] = f.games[with], f.games[at]
		}
		right := areRoundsByHand(f)
		counts[right]++
		want(t, fmt.Sprint("changed rounds ", f), impl.AreRounds(f.teams, f.games), right)
	}
	want(t, "right and wrong ones", counts[true] > 100 && counts[false] > 100, true)
}

// homesByHand returns which teams are at home, after a look for each one.
func (f field) homesByHand() []bool {
	var homes []bool
	for number := range f.rounds() {
		for team := range f.teams {
			homes = append(homes, f.place(number, team)%2 == 0)
		}
	}
	return homes
}

func TestHomesOf(t *testing.T) {
	wantTold(t, "two teams", told(impl.HomesOf(2, []int64{1, 0})), []bool{false, true})
	wantTold(t, "two rounds", told(impl.HomesOf(2, []int64{1, 0, 0, 1})), []bool{false, true, true, false})
	wantTold(t, "four teams", told(impl.HomesOf(4, []int64{3, 0, 1, 2, 0, 1, 2, 3})), []bool{false, true, false, true, true, false, true, false})
	r := drawer(401)
	for range 200 {
		f := drawField(r, drawTeams(r), 1+r.IntN(30))
		wantTold(t, "drawn rounds", told(impl.HomesOf(f.teams, f.games)), f.homesByHand())
	}
}

// breaksByHand counts for each team how often it does not change.
func (f field) breaksByHand() int64 {
	var breaks int64
	for team := range f.teams {
		for number := range f.rounds() - 1 {
			if f.place(number, team)%2 == f.place(number+1, team)%2 {
				breaks++
			}
		}
	}
	return breaks
}

func TestCountBreaks(t *testing.T) {
	wantTold(t, "one round", told(impl.CountBreaks(4, []int64{0, 1, 2, 3})), 0)
	wantTold(t, "all change", told(impl.CountBreaks(2, []int64{1, 0, 0, 1})), 0)
	wantTold(t, "none changes", told(impl.CountBreaks(4, []int64{0, 1, 2, 3, 0, 3, 2, 1})), 4)
	wantTold(t, "half of them change", told(impl.CountBreaks(4, []int64{0, 1, 2, 3, 0, 2, 1, 3})), 2)
	wantTold(t, "four teams", told(impl.CountBreaks(4, circleByHand(4))), 2)
	r := drawer(402)
	for range 200 {
		f := drawField(r, drawTeams(r), 1+r.IntN(30))
		wantTold(t, "drawn rounds", told(impl.CountBreaks(f.teams, f.games)), f.breaksByHand())
	}
	for teams := int64(2); teams <= impl.MaxTeams; teams += 2 {
		// There are at most two teams that always change.
		breaks, ok := impl.CountBreaks(teams, circleByHand(teams))
		want(t, "breaks of the circle", ok && breaks == teams-2, true)
	}
}

func TestBackRounds(t *testing.T) {
	wantTold(t, "two teams", told(impl.BackRounds(2, []int64{1, 0})), []int64{1, 0, 0, 1})
	wantTold(t, "four teams", told(impl.BackRounds(4, []int64{1, 0, 2, 3, 0, 3, 1, 2})), []int64{1, 0, 2, 3, 0, 3, 1, 2, 0, 1, 3, 2, 3, 0, 2, 1})
	wantNotTold(t, "too many rounds", told(impl.BackRounds(2, []int64{1, 0, 0, 1})))
	wantNotTold(t, "two teams that meet twice", told(impl.BackRounds(4, []int64{0, 1, 2, 3, 1, 0, 3, 2})))
	wantNotTold(t, "two of the teams", told(impl.BackRounds(6, []int64{0, 1, 2, 3, 4, 5, 1, 0, 2, 4, 3, 5})))
	r := drawer(403)
	counts := map[bool]int{}
	for range 500 {
		f := drawField(r, drawTeams(r), 1+r.IntN(20))
		back := slices.Clone(f.games)
		for game := range slices.Chunk(f.games, 2) {
			back = append(back, game[1], game[0])
		}
		right := f.rounds() < int(f.teams) && areRoundsByHand(field{f.teams, back})
		counts[right]++
		if right {
			wantTold(t, "drawn rounds", told(impl.BackRounds(f.teams, f.games)), back)
		} else {
			wantNotTold(t, "drawn rounds", told(impl.BackRounds(f.teams, f.games)))
		}
	}
	want(t, "right and wrong ones", counts[true] > 50 && counts[false] > 50, true)
	for teams := int64(2); teams <= impl.MaxTeams; teams += 2 {
		back, ok := impl.BackRounds(teams, circleByHand(teams))
		want(t, "all rounds", ok && impl.AreRounds(teams, back) && len(back) == int(2*teams*(teams-1)), true)
	}
}

// tripsByHand returns how far teams go, place by place.
func (f field) tripsByHand(far []int64) []int64 {
	var trips []int64
	for team := range f.teams {
		places := []int64{team}
		for number := range f.rounds() {
			// The home of a game stands at the even place.
			places = append(places, f.round(number)[f.place(number, team)&^1])
		}
		places = append(places, team)
		var sum int64
		for at := range places[1:] {
			sum += far[places[at]*f.teams+places[at+1]]
		}
		trips = append(trips, sum)
	}
	return trips
}

func TestTripsOf(t *testing.T) {
	wantTold(t, "there, and back", told(impl.TripsOf(2, []int64{1, 0}, []int64{0, 5, 7, 0})), []int64{12, 0})
	wantTold(t, "from a place to itself", told(impl.TripsOf(2, []int64{1, 0}, []int64{100, 5, 7, 20})), []int64{12, 40})
	wantTold(t, "two rounds", told(impl.TripsOf(2, []int64{1, 0, 0, 1}, []int64{1000, 5, 7, 20})), []int64{1012, 32})
	// Guests stay away between two games: 0 goes from 0 to 1, to 2 and back, and 3 goes from 3 to 2, to 1 and back.
	far := []int64{0, 1, 2, 3, 10, 0, 12, 13, 20, 21, 0, 23, 30, 31, 32, 0}
	wantTold(t, "four teams", told(impl.TripsOf(4, []int64{1, 0, 2, 3, 2, 0, 1, 3}, far)), []int64{1 + 12 + 20, 0, 0, 32 + 21 + 13})
	r := drawer(404)
	for range 300 {
		f := drawField(r, drawTeams(r), 1+r.IntN(30))
		far := drawList(r, int(f.teams*f.teams), 0, 1000)
		wantTold(t, "drawn rounds", told(impl.TripsOf(f.teams, f.games, far)), f.tripsByHand(far))
	}
	for _, wrong := range [][]int64{nil, {0}, {0, 1, 1}, {0, 1, 1, 0, 0}, {0, -1, 1, 0}, {0, 1001, 1, 0}, {-1, 1, 1, 0}, {0, 1, 1, 1001}, {0, math.MaxInt64, 1, 0}, {0, 1, math.MinInt64, 0}, make([]int64, 16)} {
		wantNotTold(t, fmt.Sprint("distances ", wrong), told(impl.TripsOf(2, []int64{1, 0}, wrong)))
	}
}

func TestTurnedGames(t *testing.T) {
	wantTold(t, "one round", told(impl.TurnedGames(2, []int64{1, 0}, 0)), []int64{1, 0})
	wantTold(t, "two rounds", told(impl.TurnedGames(2, []int64{1, 0, 0, 1}, 1)), []int64{0, 1, 1, 0})
	wantTold(t, "four teams", told(impl.TurnedGames(4, circleByHand(4), 1)), []int64{1, 3, 2, 0, 3, 2, 0, 1, 3, 0, 1, 2})
	r := drawer(405)
	for range 300 {
		f := drawField(r, drawTeams(r), 1+r.IntN(30))
		first := r.IntN(f.rounds())
		var turned []int64
		for number := range f.rounds() {
			turned = append(turned, f.round((first+number)%f.rounds())...)
		}
		wantTold(t, "drawn rounds", told(impl.TurnedGames(f.teams, f.games, int64(first))), turned)
		for _, wrong := range []int64{-1, int64(f.rounds()), int64(len(f.games)), math.MinInt64, math.MaxInt64} {
			wantNotTold(t, "a wrong round", told(impl.TurnedGames(f.teams, f.games, wrong)))
		}
	}
}

func TestRoundsFail(t *testing.T) {
	for _, f := range badFields() {
		what := fmt.Sprint(f)
		wantNotTold(t, "HomesOf "+what, told(impl.HomesOf(f.teams, f.games)))
		wantNotTold(t, "CountBreaks "+what, told(impl.CountBreaks(f.teams, f.games)))
		wantNotTold(t, "BackRounds "+what, told(impl.BackRounds(f.teams, f.games)))
		wantNotTold(t, "TurnedGames "+what, told(impl.TurnedGames(f.teams, f.games, 0)))
		for _, n := range []int64{f.teams, 0, 2, 4} {
			if n >= 0 && n <= 24 {
				wantNotTold(t, "TripsOf "+what, told(impl.TripsOf(f.teams, f.games, make([]int64, n*n))))
			}
		}
	}
}
