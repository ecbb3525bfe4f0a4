package tests

import (
	"fmt"
	"math"
	"math/bits"
	"slices"
	"testing"

	"loop.example/g01389/impl"
)

func TestAreClashes(t *testing.T) {
	for _, c := range []examCase{{1, nil}, {12, []int64{}}, {2, []int64{1, 0}}, {3, []int64{0, 1, 1, 2}}, {2, []int64{0, 1, 1, 0, 0, 1}}, {12, []int64{11, 0, 0, 11}}, {2, slices.Repeat([]int64{0, 1}, impl.MaxTalks)}} {
		want(t, fmt.Sprint("clashes ", c), impl.AreClashes(c.exams, c.clashes), true)
	}
	for _, c := range badExams() {
		want(t, fmt.Sprint("no clashes ", c), impl.AreClashes(c.exams, c.clashes), false)
	}
	want(t, "a long list", impl.AreClashes(2, slices.Repeat([]int64{0, 1}, 100000)), false)
}

func TestIsColour(t *testing.T) {
	three := examCase{3, []int64{0, 1, 1, 2}}
	for colours, right := range map[[3]int64]bool{{0, 1, 0}: true, {0, 0, 1}: false, {1, 0, 0}: false, {11, 0, 11}: true, {2, 2, 2}: false, {0, 11, 5}: true} {
		wantTold(t, fmt.Sprint("colours ", colours), told(impl.IsColour(3, three.clashes, colours[:])), right)
	}
	wantTold(t, "one exam", told(impl.IsColour(1, nil, []int64{11})), true)
	wantTold(t, "none clash", told(impl.IsColour(3, nil, []int64{0, 0, 0})), true)
	r := drawer(410)
	counts := map[bool]int{}
	for range 1000 {
		c := examCase{exams: 1 + r.Int64N(impl.MaxExams)}
		c.clashes = drawClashes(r, c.exams, r.IntN(12))
		colours := drawList(r, int(c.exams), 0, r.Int64N(impl.MaxExams))
		counts[c.isRight(colours)]++
		wantTold(t, fmt.Sprint("drawn exams ", c, colours), told(impl.IsColour(c.exams, c.clashes, colours)), c.isRight(colours))
	}
	want(t, "right and wrong ones", counts[true] > 100 && counts[false] > 100, true)
	for _, colours := range [][]int64{nil, {0, 1}, {0, 1, 0, 1}, {0, -1, 0}, {0, 12, 0}, {12, 1, 0}, {0, 1, math.MinInt64}, {0, 1, math.MaxInt64}} {
		wantNotTold(t, fmt.Sprint("wrong colours ", colours), told(impl.IsColour(3, three.clashes, colours)))
		wantNotTold(t, fmt.Sprint("wrong colours ", colours), told(impl.IsColour(3, nil, colours)))
	}
}

// greedyByHand gives colours in an order.
func (c examCase) greedyByHand(order []int64) []int64 {
	colours := repeated[int64](-1, int(c.exams))
	for place, exam := range order {
		taken := map[int64]bool{}
		for _, other := range order[:place] {
			if c.doClash(exam, other) {
				taken[colours[other]] = true
			}
		}
		least := int64(0)
		for taken[least] {
			least++
		}
		colours[exam] = least
	}
	return colours
}

func TestColourBy(t *testing.T) {
	wantTold(t, "three exams", told(impl.ColourBy(3, []int64{0, 1, 1, 2}, []int64{0, 2, 1})), []int64{0, 1, 0})
	wantTold(t, "the one in the middle first", told(impl.ColourBy(3, []int64{0, 1, 1, 2}, []int64{1, 2, 0})), []int64{1, 0, 1})
	// By a bad order, four exams in a row need three colours.
	wantTold(t, "four exams", told(impl.ColourBy(4, []int64{0, 1, 1, 2, 2, 3}, []int64{0, 3, 1, 2})), []int64{0, 1, 2, 0})
	wantTold(t, "a colour that is free again", told(impl.ColourBy(4, []int64{3, 1, 2, 3, 1, 2}, []int64{1, 2, 0, 3})), []int64{0, 0, 1, 2})
	wantTold(t, "one exam", told(impl.ColourBy(1, nil, []int64{0})), []int64{0})
	r := drawer(411)
	for range 1000 {
		c := examCase{exams: 1 + r.Int64N(impl.MaxExams)}
		c.clashes = drawClashes(r, c.exams, r.IntN(33))
		order := drawOrder(r, int(c.exams))
		wantTold(t, fmt.Sprint("drawn exams ", c, order), told(impl.ColourBy(c.exams, c.clashes, order)), c.greedyByHand(order))
	}
	for _, order := range badOrders(3) {
		wantNotTold(t, fmt.Sprint("no order ", order), told(impl.ColourBy(3, []int64{0, 1}, order)))
	}
}

// numbersBelow ranges over all lists of n numbers less than count, the least one first; each is only lent.
func numbersBelow(n int, count int64) func(yield func([]int64) bool) {
	return func(yield func([]int64) bool) {
		list := make([]int64, n)
		var fill func(at int) bool
		fill = func(at int) bool {
			if at == n {
				return yield(list)
			}
			for list[at] = 0; list[at] < count; list[at]++ {
				if !fill(at + 1) {
					return false
				}
			}
			return true
		}
		fill(0)
	}
}

// leastByLook returns the fewest colours after a look at all lists.
func (c examCase) leastByLook() ([]int64, int64) {
	for count := int64(1); ; count++ {
		for colours := range numbersBelow(int(c.exams), count) {
			if c.isRight(colours) {
				return slices.Clone(colours), count
			}
		}
	}
}

// setsOf returns for each exam the set of those that clash with it.
func (c examCase) setsOf() []int {
	sets := make([]int, c.exams)
	for pair := range slices.Chunk(c.clashes, 2) {
		sets[pair[0]] |= 1 << pair[1]
		sets[pair[1]] |= 1 << pair[0]
	}
	return sets
}

// fewestBySets returns how many colours are needed, by those that parts of the exams need.
func (c examCase) fewestBySets() int64 {
	sets := c.setsOf()
	fewest := make([]int64, 1<<c.exams)
	for set := 1; set < 1<<c.exams; set++ {
		fewest[set] = math.MaxInt64
		first := 1 << bits.TrailingZeros(uint(set))
		// One colour is that of the first exam, and of some others.
		for part := set; part > 0; part = (part - 1) & set {
			apart := part&first != 0
			for exam, clashing := range sets {
				apart = apart && (part>>exam&1 == 0 || part&clashing == 0)
			}
			if apart {
				fewest[set] = min(fewest[set], 1+fewest[set&^part])
			}
		}
	}
	return fewest[1<<c.exams-1]
}

// firstWith returns the first colours less than count, exam by exam, or nil.
func (c examCase) firstWith(count int64, begun []int64) []int64 {
	if !c.isRight(begun) {
		return nil
	}
	if int64(len(begun)) == c.exams {
		return begun
	}
	for colour := range count {
		if all := c.firstWith(count, append(slices.Clone(begun), colour)); all != nil {
			return all
		}
	}
	return nil
}

// circleOf returns clashes of each one of some exams and the next one.
func circleOf(exams ...int64) []int64 {
	var clashes []int64
	for i, exam := range exams {
		clashes = append(clashes, exam, exams[(i+1)%len(exams)])
	}
	return clashes
}

// eachOf returns clashes of each one of some exams and each one of others.
func eachOf(exams, others []int64) []int64 {
	var clashes []int64
	for _, exam := range exams {
		for _, other := range others {
			clashes = append(clashes, exam, other)
		}
	}
	return clashes
}

// allOf returns clashes of each two of some exams.
func allOf(exams ...int64) []int64 {
	var clashes []int64
	for i, exam := range exams {
		clashes = append(clashes, eachOf([]int64{exam}, exams[i+1:])...)
	}
	return clashes
}

// greatCases are exams with many clashes, and how many colours, and how many exams of which each two clash, there are.
func greatCases() map[string]struct {
	c            examCase
	least, great int64
} {
	type great = struct {
		c            examCase
		least, great int64
	}
	ring, rest := []int64{3, 4, 5, 6, 7}, []int64{8, 9, 10, 11}
	// Triangles are missing in this one, but four colours are needed: five exams in a ring, five that stand for one of them each, and one that clashes with these.
	mycielski := circleOf(1, 2, 3, 4, 5)
	for i := range int64(5) {
		mycielski = append(mycielski, 6+i, 1+(i+1)%5, 6+i, 1+(i+4)%5, 11, 6+i)
	}
	return map[string]great{
		"none clash": {examCase{12, nil}, 1, 1}, "one exam": {examCase{1, nil}, 1, 1}, "the same clash again and again": {examCase{12, slices.Repeat([]int64{11, 10}, 32)}, 2, 2},
		"twelve in a ring": {examCase{12, circleOf(upwards(12)...)}, 2, 2}, "eleven in a ring": {examCase{12, circleOf(upwards(12)[1:]...)}, 3, 2},
		"eight of which all clash, at first": {examCase{12, allOf(upwards(8)...)}, 8, 8}, "eight of which all clash, at last": {examCase{12, allOf(upwards(12)[4:]...)}, 8, 8},
		"two sides": {examCase{11, eachOf(upwards(11)[:5], upwards(11)[5:])}, 2, 2}, "no three clash": {examCase{12, mycielski}, 4, 2},
		"a ring of five, and four of which all clash": {examCase{12, slices.Concat(circleOf(ring...), allOf(rest...), eachOf(ring, rest))}, 7, 6},
	}
}

func TestLeastColours(t *testing.T) {
	r := drawer(412)
	for range 600 {
		c := examCase{exams: 1 + r.Int64N(6)}
		c.clashes = drawClashes(r, c.exams, r.IntN(16))
		colours, count := c.leastByLook()
		wantPlan(t, fmt.Sprint("drawn exams ", c), planOf(impl.LeastColours(c.exams, c.clashes)), colours, count)
	}
	for range 40 {
		c := examCase{exams: 8 + r.Int64N(5)}
		c.clashes = drawClashes(r, c.exams, 12+r.IntN(21))
		count := c.fewestBySets()
		wantPlan(t, fmt.Sprint("more exams ", c), planOf(impl.LeastColours(c.exams, c.clashes)), c.firstWith(count, nil), count)
	}
	for what, g := range greatCases() {
		wantPlan(t, what, planOf(impl.LeastColours(g.c.exams, g.c.clashes)), g.c.firstWith(g.least, nil), g.least)
	}
	// The greedy colours in the order of indices are 0, 0, 1, 2 here.
	wantPlan(t, "not the greedy ones", planOf(impl.LeastColours(4, []int64{0, 2, 2, 3, 3, 1})), []int64{0, 1, 1, 0}, 2)
}

// cliqueByLook returns the first one of the greatest sets, each two of which clash, after a look at all of them.
func (c examCase) cliqueByLook() []int64 {
	var best []int64
	for set := range 1 << c.exams {
		clique := slices.DeleteFunc(upwards(int(c.exams)), func(exam int64) bool { return set>>exam&1 == 0 })
		clash := true
		for i, exam := range clique {
			for _, other := range clique[:i] {
				clash = clash && c.doClash(exam, other)
			}
		}
		if clash && (len(clique) > len(best) || len(clique) == len(best) && slices.Compare(clique, best) < 0) {
			best = clique
		}
	}
	return best
}

func TestGreatClique(t *testing.T) {
	for _, c := range []struct {
		exams           int64
		clashes, clique []int64
	}{
		{3, []int64{0, 1, 1, 2}, []int64{0, 1}}, {1, nil, []int64{0}}, {12, nil, []int64{0}}, {3, []int64{2, 1}, []int64{1, 2}}, {4, []int64{3, 2, 1, 0}, []int64{0, 1}},
		{5, []int64{0, 4, 1, 2, 2, 3, 3, 1}, []int64{1, 2, 3}}, {4, []int64{0, 3, 1, 2, 0, 2}, []int64{0, 2}}, {6, append(allOf(3, 4, 5), allOf(0, 1, 5)...), []int64{0, 1, 5}},
		{6, append(allOf(1, 2, 3), allOf(0, 4, 5)...), []int64{0, 4, 5}}, {5, append(allOf(0, 1, 2), allOf(0, 1, 3)...), []int64{0, 1, 2}},
	} {
		wantTold(t, fmt.Sprint(c), told(impl.GreatClique(c.exams, c.clashes)), c.clique)
	}
	r := drawer(413)
	for range 300 {
		c := examCase{exams: 1 + r.Int64N(9)}
		c.clashes = drawClashes(r, c.exams, r.IntN(33))
		wantTold(t, fmt.Sprint("drawn exams ", c), told(impl.GreatClique(c.exams, c.clashes)), c.cliqueByLook())
	}
	for what, g := range greatCases() {
		clique, ok := impl.GreatClique(g.c.exams, g.c.clashes)
		want(t, what, ok && int64(len(clique)) == g.great, true)
		wantList(t, what, clique, g.c.cliqueByLook())
	}
}

// TestCliqueIsABound checks that no colours are fewer than exams of which each two clash.
func TestCliqueIsABound(t *testing.T) {
	r := drawer(414)
	for range 300 {
		exams := 1 + r.Int64N(impl.MaxExams)
		clashes := drawClashes(r, exams, r.IntN(33))
		clique, one := impl.GreatClique(exams, clashes)
		colours, count, two := impl.LeastColours(exams, clashes)
		is, three := impl.IsColour(exams, clashes, colours)
		greedy, four := impl.ColourBy(exams, clashes, drawOrder(r, int(exams)))
		want(t, "all succeed", one && two && three && four, true)
		want(t, "bounds", is && int64(len(clique)) <= count && count == slices.Max(colours)+1 && count <= slices.Max(greedy)+1, true)
	}
}

func TestCountColours(t *testing.T) {
	for _, c := range []struct {
		exams       int64
		clashes     []int64
		most, count int64
	}{
		{3, []int64{0, 1, 1, 2}, 2, 2}, {3, []int64{0, 1, 1, 2}, 3, 12}, {3, []int64{0, 1, 1, 2}, 1, 0}, {1, nil, 1, 1}, {1, nil, 4, 4}, {8, nil, 4, 65536}, {8, nil, 1, 1}, {8, nil, 2, 256},
		{4, allOf(0, 1, 2, 3), 4, 24}, {4, allOf(0, 1, 2, 3), 3, 0}, {5, circleOf(0, 1, 2, 3, 4), 3, 30}, {5, circleOf(0, 1, 2, 3, 4), 4, 240}, {8, eachOf(upwards(4), []int64{4, 5, 6, 7}), 2, 2},
	} {
		wantTold(t, fmt.Sprint(c), told(impl.CountColours(c.exams, c.clashes, c.most)), c.count)
	}
	r := drawer(415)
	for range 200 {
		c := examCase{exams: 1 + r.Int64N(6)}
		c.clashes = drawClashes(r, c.exams, r.IntN(12))
		most := 1 + r.Int64N(4)
		count := int64(0)
		for colours := range numbersBelow(int(c.exams), most) {
			if c.isRight(colours) {
				count++
			}
		}
		wantTold(t, fmt.Sprint("drawn exams ", c, most), told(impl.CountColours(c.exams, c.clashes, most)), count)
	}
	for _, most := range []int64{0, -1, 5, math.MinInt64, math.MaxInt64} {
		wantNotTold(t, "wrong colours", told(impl.CountColours(3, nil, most)))
	}
	for exams := int64(9); exams <= impl.MaxExams; exams++ {
		wantNotTold(t, "too many exams", told(impl.CountColours(exams, nil, 1)))
	}
}

func TestColoursShared(t *testing.T) {
	lists := [][]int64{{0, 1, 1, 2}, nil, allOf(0, 1, 2), circleOf(0, 1, 2, 3, 4), {5, 4}, allOf(0, 1, 2, 3, 4, 5), {}, circleOf(0, 1, 2, 3)}
	for workers := int64(1); workers <= impl.MaxWorkers; workers++ {
		wantTold(t, "eight lists", told(impl.ColoursShared(lists, 6, workers)), []int64{2, 1, 3, 3, 2, 6, 1, 2})
		wantTold(t, "one list", told(impl.ColoursShared(lists[2:3], 3, workers)), []int64{3})
		for _, exams := range []int64{1, 2, impl.MaxExams} {
			wantTold(t, "none", told(impl.ColoursShared(nil, exams, workers)), nil)
			wantTold(t, "lists without clashes", told(impl.ColoursShared([][]int64{nil, {}}, exams, workers)), []int64{1, 1})
		}
		wantNotTold(t, "nine lists", told(impl.ColoursShared(append(lists, nil), 6, workers)))
		for _, c := range badExams() {
			wantNotTold(t, fmt.Sprint("a wrong list ", c), told(impl.ColoursShared([][]int64{nil, c.clashes, nil}, c.exams, workers)))
		}
		for _, exams := range []int64{0, -1, impl.MaxExams + 1, math.MinInt64, math.MaxInt64} {
			wantNotTold(t, "none of wrong exams", told(impl.ColoursShared(nil, exams, workers)))
		}
	}
	for _, workers := range []int64{0, -1, impl.MaxWorkers + 1, math.MinInt64, math.MaxInt64} {
		wantNotTold(t, "wrong workers", told(impl.ColoursShared(lists, 6, workers)))
		wantNotTold(t, "none by wrong workers", told(impl.ColoursShared(nil, 6, workers)))
	}
}

func TestExamsFail(t *testing.T) {
	for _, c := range badExams() {
		what := fmt.Sprint(c)
		for n := range 14 {
			wantNotTold(t, "IsColour "+what, told(impl.IsColour(c.exams, c.clashes, make([]int64, n))))
			wantNotTold(t, "ColourBy "+what, told(impl.ColourBy(c.exams, c.clashes, upwards(n))))
		}
		wantNoPlan(t, "LeastColours "+what, planOf(impl.LeastColours(c.exams, c.clashes)))
		wantNotTold(t, "GreatClique "+what, told(impl.GreatClique(c.exams, c.clashes)))
		wantNotTold(t, "CountColours "+what, told(impl.CountColours(c.exams, c.clashes, 2)))
	}
}
