package tests

import (
	"math"
	"math/rand/v2"
	"slices"
	"testing"

	"loop.example/g01389/impl"
)

// TestLimitsOfRounds checks the limits that chapter 7 names.
func TestLimitsOfRounds(t *testing.T) {
	want(t, "MaxTeams", impl.MaxTeams, 16)
	want(t, "MaxExams", impl.MaxExams, 12)
	want(t, "MaxTalks", impl.MaxTalks, 32)
	want(t, "MaxZones", impl.MaxZones, 8)
	want(t, "MaxSaved", impl.MaxSaved, 8)
}

// TestRoundsExample checks the examples at the end of chapter 7.
func TestRoundsExample(t *testing.T) {
	wantTold(t, "rounds of four teams", told(impl.CircleRounds(4)), []int64{3, 0, 1, 2, 1, 3, 2, 0, 3, 2, 0, 1})
	wantPlan(t, "colours of three exams", planOf(impl.LeastColours(3, []int64{0, 1, 1, 2})), []int64{0, 1, 0}, 2)
	_, rooms, ok := impl.RoomsOf(exampleTalks())
	want(t, "rooms of three talks", ok && rooms == 2, true)
	wantTold(t, "talks that do not meet", told(impl.MostTalks(exampleTalks())), []int64{0, 2})
}

// exampleTalks are those of the examples.
func exampleTalks() []int64 { return []int64{0, 5, 3, 7, 5, 9} }

// A field has teams, and their games.
type field struct {
	teams int64
	games []int64
}

// round returns the games of a round.
func (f field) round(number int) []int64 {
	return f.games[number*int(f.teams) : (number+1)*int(f.teams)]
}

// rounds returns how many rounds there are.
func (f field) rounds() int { return len(f.games) / int(f.teams) }

// place returns the place of a team in a round: at home, it is even.
func (f field) place(number int, team int64) int { return slices.Index(f.round(number), team) }

// drawField returns rounds, in which each two teams meet twice, once at home of each one, or the first ones of them; at most as many as told.
func drawField(r *rand.Rand, teams int64, most int) field {
	names := drawOrder(r, int(teams))
	last := teams - 1
	var rounds, back [][]int64
	for number := range last {
		var there, then []int64
		// Two of the other teams meet in the round that is half of their sum, and the last one has the team that would meet itself.
		for i := range last {
			for k := i; k < last; k++ {
				if (i+k)%last != 2*number%last {
					continue
				}
				home, guest := names[i], names[k]
				if i == k {
					guest = names[last]
				}
				if r.IntN(2) == 0 {
					home, guest = guest, home
				}
				there, then = append(there, home, guest), append(then, guest, home)
			}
		}
		rounds, back = append(rounds, there), append(back, then)
	}
	if r.IntN(2) == 0 {
		rounds = append(rounds, back...)
	}
	r.Shuffle(len(rounds), func(i, k int) { rounds[i], rounds[k] = rounds[k], rounds[i] })
	return field{teams, slices.Concat(rounds[:min(most, len(rounds))]...)}
}

// drawTeams returns how many teams there are.
func drawTeams(r *rand.Rand) int64 { return 2 + 2*r.Int64N(8) }

// changed returns a copy of games with another number.
func (f field) changed(at int, number int64) field {
	games := slices.Clone(f.games)
	games[at] = number
	return field{f.teams, games}
}

// badFields are such ones that are not right by one number, or one game, or one team.
func badFields() []field {
	four := field{4, []int64{0, 1, 2, 3, 3, 0, 1, 2, 2, 0, 3, 1}}
	fields := []field{
		{4, nil}, {4, []int64{}}, {2, nil}, {0, nil}, {4, four.games[:2]}, {4, four.games[:6]}, {4, four.games[:11]}, {4, append(slices.Clone(four.games), 0)},
		{4, append(slices.Clone(four.games), 0, 1, 2, 3)}, {4, append(slices.Clone(four.games), 1, 0, 2, 3)}, {4, append(slices.Clone(four.games), 2, 3, 0, 1)},
		{2, []int64{0, 1, 0, 1}}, {2, []int64{1, 0, 1, 0}}, {2, []int64{0, 1, 1, 0, 0, 1}}, {2, []int64{0, 0}}, {2, []int64{0}}, {2, []int64{0, 1, 1}},
		{2, four.games}, {3, []int64{0, 1, 2}}, {3, []int64{0, 1, 2, 0, 2, 1}}, {3, []int64{0, 1}}, {1, []int64{0}}, {5, []int64{0, 1, 2, 3, 4}},
		{15, upwards(15)}, {17, upwards(17)}, {18, upwards(18)}, {24, upwards(24)}, {6, four.games}, {8, upwards(4)}, {16, upwards(15)},
	}
	for _, teams := range []int64{0, -1, -2, -4, -12, math.MinInt64, math.MaxInt64, math.MaxInt64 - 1} {
		fields = append(fields, field{teams, four.games}, field{teams, nil})
	}
	for at, team := range four.games {
		for _, other := range []int64{-1, 4, (team + 1) % 4, (team + 2) % 4, math.MinInt64, math.MaxInt64} {
			fields = append(fields, four.changed(at, other))
		}
	}
	return fields
}

// drawClashes returns pairs of different exams, some of which are often the same, of which there are none for one exam.
func drawClashes(r *rand.Rand, exams int64, pairs int) []int64 {
	var clashes []int64
	for range pairs {
		if exam, other := r.Int64N(exams), r.Int64N(exams); exam != other {
			clashes = append(clashes, exam, other)
		}
	}
	return clashes
}

// An examCase has exams, and clashes.
type examCase struct {
	exams   int64
	clashes []int64
}

// doClash reports whether two exams clash.
func (c examCase) doClash(exam, other int64) bool {
	for pair := range slices.Chunk(c.clashes, 2) {
		if pair[0] == exam && pair[1] == other || pair[1] == exam && pair[0] == other {
			return true
		}
	}
	return false
}

// isRight reports whether no two of the first exams that clash have the same colour.
func (c examCase) isRight(colours []int64) bool {
	for exam := range colours {
		for other := range exam {
			if colours[exam] == colours[other] && c.doClash(int64(exam), int64(other)) {
				return false
			}
		}
	}
	return true
}

// badExams are cases that are not right by one number, or one pair.
func badExams() []examCase {
	cases := []examCase{{3, []int64{0}}, {3, []int64{0, 1, 1}}, {3, []int64{0, 0}}, {3, []int64{0, 1, 2, 2}}, {12, []int64{11, 11}}, {1, []int64{0, 0}}, {1, []int64{0, 1}}}
	cases = append(cases, examCase{2, slices.Repeat([]int64{0, 1}, impl.MaxTalks+1)}, examCase{12, append(slices.Repeat([]int64{0, 1}, impl.MaxTalks), 2)})
	for _, exams := range []int64{0, -1, impl.MaxExams + 1, math.MinInt64, math.MaxInt64} {
		cases = append(cases, examCase{exams, nil}, examCase{exams, []int64{0, 1}})
	}
	for _, exam := range []int64{-1, 3, math.MinInt64, math.MaxInt64} {
		cases = append(cases, examCase{3, []int64{exam, 1}}, examCase{3, []int64{1, exam}}, examCase{3, []int64{0, 1, 1, 2, exam, 0}})
	}
	return cases
}

// drawTalks returns talks that begin before some time, and are short, so that many of them touch.
func drawTalks(r *rand.Rand, n int, before int64) []int64 {
	var talks []int64
	for range n {
		begin := r.Int64N(before)
		talks = append(talks, begin, begin+1+r.Int64N(5))
	}
	return talks
}

// isThere reports whether a talk is there at a time.
func isThere(talks []int64, talk int, at int64) bool {
	return talks[2*talk] <= at && at < talks[2*talk+1]
}

// doMeet reports whether two talks are there at the same time, after a look at each one of the first talk.
func doMeet(talks []int64, talk, other int) bool {
	for at := talks[2*talk]; at < talks[2*talk+1]; at++ {
		if isThere(talks, other, at) {
			return true
		}
	}
	return false
}

// badTalks are lists that are not talks, each of which has one number that is wrong by 1, or far away, or one number too much or too few.
func badTalks() [][]int64 {
	lists := [][]int64{nil, {}, {0}, {0, 1, 2}, {1, 1}, {2, 1}, {0, 0}, {10000, 10000}, {math.MaxInt64, math.MinInt64}, {math.MinInt64, math.MaxInt64}}
	lists = append(lists, slices.Repeat([]int64{0, 1}, impl.MaxTalks+1), append(slices.Repeat([]int64{0, 1}, impl.MaxTalks), 2))
	for _, bad := range [][]int64{{-1, 1}, {math.MinInt64, 1}, {0, 10001}, {10000, 10001}, {0, math.MaxInt64}, {5, 5}, {5, 4}, {5, -1}, {5, math.MinInt64}} {
		lists = append(lists, bad, append([]int64{0, 1}, bad...), append(slices.Clone(bad), 0, 1))
	}
	return lists
}
