package tests

import (
	"cmp"
	"fmt"
	"math"
	"math/rand/v2"
	"slices"
	"strings"
	"testing"

	"loop.example/g01389/impl"
)

// rosterLetters are all letters of days.
const rosterLetters = ".abcdefghijklmnopqrstuvwxyz"

// drawDays returns some letters of days, of which often some are equal, one behind the other.
func drawDays(r *rand.Rand, n int) string {
	letters := rosterLetters
	if r.IntN(2) == 0 {
		letters = "...adn"
	}
	var days strings.Builder
	for range n {
		days.WriteByte(letters[r.IntN(len(letters))])
	}
	return days.String()
}

// wrongDays are texts that are not such letters, or too many for most of them, or none.
func wrongDays(most int) []string {
	return []string{
		"", "D", "dD", "Z", "d`", "{d", " ", "d n", "-", "/", "0", "d\n", "\x00", "d\xff", "é", "dé", "ｄ",
		strings.Repeat("d", most+1), strings.Repeat(".", most+1), strings.Repeat("é", most), strings.Repeat("d", 300000),
	}
}

func TestRotateRoster(t *testing.T) {
	cases := []struct {
		pattern            string
		people, days, step int64
		roster             []string
	}{
		{"dn.", 2, 4, 1, []string{"dn.d", "n.dn"}}, {"dn.", 3, 3, 0, []string{"dn.", "dn.", "dn."}}, {"d", 2, 3, 64, []string{"ddd", "ddd"}}, {".", 1, 1, 5, []string{"."}},
		{"abc", 3, 1, 2, []string{"a", "c", "b"}}, {"abcdefg", 2, 3, 6, []string{"abc", "gab"}}, {rosterLetters, 2, 27, 64, []string{rosterLetters, rosterLetters[10:] + rosterLetters[:10]}},
	}
	for _, c := range cases {
		wantTold(t, c.pattern, told(impl.RotateRoster(c.pattern, c.people, c.days, c.step)), c.roster)
	}
	r := drawer(330)
	for range 300 {
		pattern, people, days, step := drawDays(r, 1+r.IntN(64)), 1+r.IntN(impl.MaxPeople), 1+r.IntN(128), r.IntN(65)
		var roster []string
		// Person by person, the pattern begins as many letters later as the step tells.
		again := strings.Repeat(pattern, 1000)
		for range people {
			roster = append(roster, again[:days])
			again = again[step:]
		}
		wantTold(t, "drawn pattern", told(impl.RotateRoster(pattern, int64(people), int64(days), int64(step))), roster)
	}
	roster, ok := impl.RotateRoster(strings.Repeat("d", 63)+".", 12, 128, 64)
	want(t, "as much as can be", ok && len(roster) == 12 && len(roster[11]) == 128 && roster[11] == roster[0], true)
}

func TestRotateRosterFails(t *testing.T) {
	for _, pattern := range wrongDays(64) {
		wantNotTold(t, fmt.Sprintf("a wrong pattern %.20q", pattern), told(impl.RotateRoster(pattern, 1, 1, 0)))
	}
	for _, n := range []int64{0, -1, math.MinInt64, math.MaxInt64} {
		wantNotTold(t, "wrong people", told(impl.RotateRoster("dn.", n, 4, 1)))
		wantNotTold(t, "wrong days", told(impl.RotateRoster("dn.", 2, n, 1)))
	}
	wantNotTold(t, "too many people", told(impl.RotateRoster("dn.", impl.MaxPeople+1, 4, 1)))
	wantNotTold(t, "too many days", told(impl.RotateRoster("dn.", 2, 129, 1)))
	for _, n := range []int64{-1, 65, math.MinInt64, math.MaxInt64} {
		wantNotTold(t, "wrong steps", told(impl.RotateRoster("dn.", 2, 4, n)))
	}
}

// wantRuns fails if RosterRuns has failed, or has returned other runs.
func wantRuns(t *testing.T, days string, worked, free int64) {
	t.Helper()
	w, f, ok := impl.RosterRuns(days)
	want(t, "runs of "+days, fmt.Sprint(w, f, ok), fmt.Sprint(worked, free, true))
}

func TestRosterRuns(t *testing.T) {
	for _, c := range []struct {
		days         string
		worked, free int64
	}{
		{"dd..n", 2, 2}, {"d", 1, 0}, {".", 0, 1}, {"dna", 3, 0}, {"...", 0, 3}, {"d.n.a", 1, 1}, {".dd.ddd..", 3, 2}, {"..dz.", 2, 2}, {"ddd.d", 3, 1}, {"...d.", 1, 3},
		{"d..d", 1, 2}, {".d.", 1, 1}, {strings.Repeat("a", 128), 128, 0}, {strings.Repeat(".", 128), 0, 128}, {strings.Repeat("z", 127) + ".", 127, 1}, {rosterLetters, 26, 1},
	} {
		wantRuns(t, c.days, c.worked, c.free)
	}
	r := drawer(331)
	for range 500 {
		days := drawDays(r, 1+r.IntN(128))
		var worked, free int64
		for row := range strings.SplitSeq(days, ".") {
			worked = max(worked, int64(len(row)))
		}
		for row := range strings.FieldsFuncSeq(days, func(letter rune) bool { return letter != '.' }) {
			free = max(free, int64(len(row)))
		}
		wantRuns(t, days, worked, free)
	}
	for _, days := range wrongDays(128) {
		wantNoPair[int64, int64](t, fmt.Sprintf("wrong days %.20q", days))(impl.RosterRuns(days))
	}
}

// callsByHand returns who is called on each day: of those who are there, one who was not called the day before, then one with the fewest calls, and then the first one.
func callsByHand(people int64, away []int64) ([]int64, bool) {
	var calls []int64
	for _, set := range away {
		there := slices.DeleteFunc(upwards(int(people)), func(person int64) bool { return (set/(1<<person))%2 == 1 })
		if len(there) == 0 {
			return nil, false
		}
		slices.SortFunc(there, func(a, b int64) int {
			before := func(person int64) int {
				if len(calls) > 0 && calls[len(calls)-1] == person {
					return 1
				}
				return 0
			}
			return cmp.Or(cmp.Compare(before(a), before(b)), cmp.Compare(countOf(calls, a), countOf(calls, b)), cmp.Compare(a, b))
		})
		calls = append(calls, there[0])
	}
	return calls, true
}

func TestOnCalls(t *testing.T) {
	cases := []struct {
		what        string
		people      int64
		away, calls []int64
	}{
		{"one is away", 2, []int64{1, 0, 0}, []int64{1, 0, 1}}, {"nobody is away", 3, make([]int64, 7), []int64{0, 1, 2, 0, 1, 2, 0}}, {"one person", 1, make([]int64, 3), []int64{0, 0, 0}},
		{"the only one is called again", 2, []int64{2, 2, 0, 2, 2}, []int64{0, 0, 1, 0, 0}}, {"not the day before, with more calls", 2, []int64{1, 1, 1, 0, 0, 0, 0}, []int64{1, 1, 1, 0, 1, 0, 1}},
		{"the fewest calls after some days", 3, []int64{6, 5, 6, 5, 0, 0, 0, 0}, []int64{0, 1, 0, 1, 2, 0, 2, 1}}, {"the last person", 12, []int64{1<<11 - 1, 0}, []int64{11, 0}},
	}
	for _, c := range cases {
		wantTold(t, c.what, told(impl.OnCalls(c.people, int64(len(c.away)), c.away)), c.calls)
	}
	r := drawer(332)
	counts := map[bool]int{}
	for range 2000 {
		people, days := 1+r.Int64N(impl.MaxPeople), 1+r.IntN(128)
		away := drawList(r, days, 0, 1<<people-1)
		for i := range away {
			// Most days have some people.
			if r.IntN(20) > 0 {
				away[i] &= r.Int64N(1 << people)
				away[i] &= ^(1 << r.Int64N(people))
			}
		}
		calls, ok := callsByHand(people, away)
		counts[ok]++
		if !ok {
			wantNotTold(t, "all are away", told(impl.OnCalls(people, int64(days), away)))
			continue
		}
		wantTold(t, "calls", told(impl.OnCalls(people, int64(days), away)), calls)
	}
	want(t, "with and without days on which all are away", counts[true] > 100 && counts[false] > 100, true)
}

// TestCallsAreEven checks that nobody is called twice more than another one, nor twice one behind the other, if nobody is away.
func TestCallsAreEven(t *testing.T) {
	for people := int64(1); people <= impl.MaxPeople; people++ {
		for days := int64(1); days <= 128; days++ {
			calls, ok := impl.OnCalls(people, days, make([]int64, days))
			want(t, "calls", ok && int64(len(calls)) == days, true)
			wantTold(t, "their gap", told(impl.CallGap(calls, people)), min(1, days%people))
			for day := 1; day < len(calls) && people > 1; day++ {
				want(t, "twice one behind the other", calls[day] == calls[day-1], false)
			}
		}
	}
}

func TestOnCallsFail(t *testing.T) {
	for _, n := range []int64{0, -1, math.MinInt64, math.MaxInt64, 13} {
		wantNotTold(t, "wrong people", told(impl.OnCalls(n, 2, []int64{0, 0})))
	}
	for _, n := range []int64{0, 1, 3, -1, math.MinInt64, math.MaxInt64} {
		wantNotTold(t, "not as many days", told(impl.OnCalls(2, n, []int64{0, 0})))
	}
	wantNotTold(t, "no days", told(impl.OnCalls(2, 0, nil)))
	wantNotTold(t, "too many days", told(impl.OnCalls(2, 129, make([]int64, 129))))
	wantNotTold(t, "far too many days", told(impl.OnCalls(2, 300000, make([]int64, 300000))))
	for people := int64(1); people <= impl.MaxPeople; people++ {
		all := int64(1)<<people - 1
		wantNotTold(t, "all are away", told(impl.OnCalls(people, 1, []int64{all})))
		wantNotTold(t, "all are away on the last day", told(impl.OnCalls(people, 3, []int64{0, 0, all})))
		for _, set := range []int64{all + 1, -1, -2, math.MinInt64, math.MaxInt64 - 1, 1 << 32} {
			wantNotTold(t, "no set of people", told(impl.OnCalls(people, 1, []int64{set})))
			wantNotTold(t, "no set of people on the last day", told(impl.OnCalls(people, 3, []int64{0, 0, set})))
		}
	}
}

func TestCallGap(t *testing.T) {
	for _, c := range []struct {
		calls       []int64
		people, gap int64
	}{
		{[]int64{1, 0, 1}, 2, 1}, {[]int64{1, 0, 1}, 3, 2}, {[]int64{0, 0, 0}, 1, 0}, {[]int64{0}, 1, 0}, {[]int64{0, 1, 2, 0, 1, 2}, 3, 0}, {nil, 5, 0}, {[]int64{}, 1, 0},
		{[]int64{11}, 12, 1}, {upwards(12), 12, 0}, {append(upwards(12), 3, 3), 12, 2}, {repeated[int64](0, 128), 2, 128}, {repeated[int64](1, 300000), 2, 300000},
	} {
		wantTold(t, "gap", told(impl.CallGap(c.calls, c.people)), c.gap)
	}
	r := drawer(333)
	for range 500 {
		people := 1 + r.Int64N(impl.MaxPeople)
		calls := drawList(r, 1+r.IntN(128), 0, people-1)
		var counts []int64
		for person := range people {
			counts = append(counts, countOf(calls, person))
		}
		slices.Sort(counts)
		wantTold(t, "gap", told(impl.CallGap(calls, people)), counts[people-1]-counts[0])
	}
	for _, n := range []int64{0, -1, 13, math.MinInt64, math.MaxInt64} {
		wantNotTold(t, "wrong people", told(impl.CallGap([]int64{0, 0}, n)))
		wantNotTold(t, "wrong people without calls", told(impl.CallGap(nil, n)))
	}
	for _, n := range []int64{-1, 2, math.MinInt64, math.MaxInt64} {
		wantNotTold(t, "a wrong call", told(impl.CallGap([]int64{n, 0}, 2)))
		wantNotTold(t, "a wrong call", told(impl.CallGap([]int64{0, n}, 2)))
	}
}

// hasSkills reports whether a set has all skills of another one.
func hasSkills(person, task int64) bool {
	for skill := int64(1); skill < 256; skill *= 2 {
		if task/skill%2 == 1 && person/skill%2 == 0 {
			return false
		}
	}
	return true
}

// matchByHand tells people of tasks as the document does.
func matchByHand(people, tasks []int64) ([]int64, int64) {
	taskOf := map[int]int{}
	var look func(task int, looked map[int]bool) bool
	look = func(task int, looked map[int]bool) bool {
		for k, person := range people {
			if !hasSkills(person, tasks[task]) || looked[k] {
				continue
			}
			looked[k] = true
			other, taken := taskOf[k]
			if !taken || look(other, looked) {
				taskOf[k] = task
				return true
			}
		}
		return false
	}
	count := int64(0)
	for task := range tasks {
		if look(task, map[int]bool{}) {
			count++
		}
	}
	match := repeated[int64](-1, len(tasks))
	for person, task := range taskOf {
		match[task] = int64(person)
	}
	return match, count
}

// mostMatches returns how many tasks can be matched, after a look at all ways to match the first tasks.
func mostMatches(people, tasks []int64, taken int) int64 {
	if len(tasks) == 0 {
		return 0
	}
	most := mostMatches(people, tasks[1:], taken)
	for k, person := range people {
		if taken>>k&1 == 0 && hasSkills(person, tasks[0]) {
			most = max(most, 1+mostMatches(people, tasks[1:], taken|1<<k))
		}
	}
	return most
}

func TestMatchSkills(t *testing.T) {
	for _, c := range []struct {
		what                 string
		people, tasks, match []int64
		count                int64
	}{
		{"each one has a person", []int64{1, 3}, []int64{1, 2}, []int64{0, 1}, 2}, {"an exchange", []int64{3, 1}, []int64{1, 2}, []int64{1, 0}, 2},
		{"nobody can", []int64{1, 2, 4}, []int64{3, 8}, []int64{-1, -1}, 0}, {"all skills", []int64{255}, []int64{255}, []int64{0}, 1}, {"no skills", []int64{0}, []int64{0}, []int64{0}, 1},
		{"a skill that is missing", []int64{127}, []int64{128}, []int64{-1}, 0}, {"fewer people", []int64{7}, []int64{1, 2, 4}, []int64{0, -1, -1}, 1}, {"fewer tasks", []int64{0, 2, 2}, []int64{2}, []int64{1}, 1},
		{"each task takes the first person from the one before", repeated[int64](5, 12), repeated[int64](5, 12), []int64{11, 10, 9, 8, 7, 6, 5, 4, 3, 2, 1, 0}, 12},
		{"a task between others", []int64{4, 8}, []int64{4, 16, 8}, []int64{0, -1, 1}, 2},
	} {
		wantPlan(t, c.what, planOf(impl.MatchSkills(c.people, c.tasks)), c.match, c.count)
	}
	r := drawer(334)
	for range 2000 {
		most := []int64{255, 7, 15}[r.IntN(3)]
		people, tasks := drawList(r, 1+r.IntN(impl.MaxPeople), 0, most), drawList(r, 1+r.IntN(impl.MaxPeople), 0, most)
		for i := range tasks {
			tasks[i] &= r.Int64N(most + 1)
		}
		match, count := matchByHand(people, tasks)
		wantPlan(t, "drawn skills", planOf(impl.MatchSkills(people, tasks)), match, count)
		if len(tasks) <= 5 {
			want(t, "no more matches", count, mostMatches(people, tasks, 0))
		}
		for task, person := range match {
			if person >= 0 {
				want(t, "the skills that are needed", hasSkills(people[person], tasks[task]) && countOf(match, person) == 1, true)
			}
		}
	}
}

func TestMatchSkillsFails(t *testing.T) {
	good := []int64{1, 2}
	wrong := [][]int64{nil, {}, make([]int64, 13), make([]int64, 300000)}
	for _, n := range []int64{-1, 256, math.MinInt64, math.MaxInt64} {
		wrong = append(wrong, []int64{n}, []int64{0, n}, append(make([]int64, 11), n))
	}
	for _, list := range wrong {
		wantNoPlan(t, "wrong people", planOf(impl.MatchSkills(list, good)))
		wantNoPlan(t, "wrong tasks", planOf(impl.MatchSkills(good, list)))
		wantNoPlan(t, "both wrong", planOf(impl.MatchSkills(list, list)))
	}
}
