package tests

import (
	"math"
	"math/rand/v2"
	"slices"
	"testing"

	"loop.example/g01389/impl"
)

// A ringAsking is what RingGap is asked for.
type ringAsking struct {
	rules  []impl.Rule
	period int64
	ring   []int64
	along  []bool
}

// gap returns what RingGap tells.
func (a ringAsking) gap() fraction {
	return periodOf(impl.RingGap(a.rules, a.period, a.ring, a.along))
}

// gapByWaits returns the least and the greatest sum that is a multiple of the period, after a look at all waits of the rules.
func (a ringAsking) gapByWaits() fraction {
	sums := map[int64]bool{0: true}
	for place, i := range a.ring {
		more := map[int64]bool{}
		for sum := range sums {
			for wait := a.rules[i].Least; wait <= a.rules[i].Most; wait++ {
				if a.along[place] {
					more[sum+wait] = true
				} else {
					more[sum-wait] = true
				}
			}
		}
		sums = more
	}
	gap := fraction{math.MaxInt64, math.MinInt64, false}
	for sum := range sums {
		if sum%a.period == 0 {
			gap = fraction{min(gap.long, sum), max(gap.by, sum), true}
		}
	}
	if !gap.ok {
		return fraction{}
	}
	return gap
}

// drawRing returns a ring of rules with other rules among them.
func drawRing(r *rand.Rand, long int, period int64) ringAsking {
	a := ringAsking{period: period}
	events := drawOrder(r, long)
	for place, event := range events {
		next := events[(place+1)%long]
		least := r.Int64N(period)
		rule := impl.Rule{From: event, To: next, Least: least, Most: least + r.Int64N(period)/2}
		along := r.IntN(2) == 0
		if !along {
			rule.From, rule.To = next, event
		}
		a.rules = append(a.rules, rule)
		a.ring, a.along = append(a.ring, int64(place)), append(a.along, along)
	}
	r.Shuffle(long, func(i, k int) {
		a.rules[i], a.rules[k] = a.rules[k], a.rules[i]
		for place, index := range a.ring {
			switch int(index) {
			case i:
				a.ring[place] = int64(k)
			case k:
				a.ring[place] = int64(i)
			}
		}
	})
	return a
}

func TestRingGap(t *testing.T) {
	there, back := impl.Rule{From: 0, To: 1, Least: 2, Most: 3}, impl.Rule{From: 1, To: 0, Least: 6, Most: 8}
	two := []impl.Rule{there, back}
	same := []impl.Rule{{From: 0, To: 1, Least: 2, Most: 9}, {From: 0, To: 1, Least: 0, Most: 3}}
	yes, no := true, false
	cases := []struct {
		what  string
		asked ringAsking
		gap   fraction
	}{
		{"there and back", ringAsking{two, 10, []int64{0, 1}, []bool{yes, yes}}, fraction{10, 10, true}},
		{"the other way round", ringAsking{two, 10, []int64{0, 1}, []bool{no, no}}, fraction{-10, -10, true}},
		{"from the other event on", ringAsking{two, 10, []int64{1, 0}, []bool{yes, yes}}, fraction{10, 10, true}},
		{"sums from 8 to 11 have no multiple of 12", ringAsking{two, 12, []int64{0, 1}, []bool{yes, yes}}, fraction{}},
		{"sums from 8 to 11 have the multiple 11", ringAsking{two, 11, []int64{0, 1}, []bool{yes, yes}}, fraction{11, 11, true}},
		{"rules side by side", ringAsking{same, 10, []int64{0, 1}, []bool{yes, no}}, fraction{0, 0, true}},
		{"sums from -1 to 9", ringAsking{same, 9, []int64{0, 1}, []bool{yes, no}}, fraction{0, 9, true}},
		{"sums from -9 to 1", ringAsking{same, 9, []int64{0, 1}, []bool{no, yes}}, fraction{-9, 0, true}},
		{"sums that are not multiples, backwards", ringAsking{two, 12, []int64{0, 1}, []bool{no, no}}, fraction{}},
		{"twice through an event", ringAsking{append(two, impl.Rule{From: 0, To: 2, Least: 1, Most: 4}, impl.Rule{From: 2, To: 0, Least: 3, Most: 3}), 9, []int64{0, 1, 2, 3}, repeated(true, 4)}, fraction{18, 18, true}},
		{"the period 1", ringAsking{[]impl.Rule{{From: 0, To: 1}, {From: 1, To: 0}}, 1, []int64{0, 1}, []bool{yes, yes}}, fraction{0, 0, true}},
		{"the last event", ringAsking{[]impl.Rule{{From: 11, To: 0, Least: 1, Most: 5}, {From: 11, To: 0, Least: 2, Most: 2}}, 6, []int64{1, 0}, []bool{no, yes}}, fraction{0, 0, true}},
	}
	for _, c := range cases {
		want(t, c.what, c.asked.gap(), c.gap)
	}
	r := drawer(221)
	counts := map[bool]int{}
	for range 800 {
		a := drawRing(r, 2+r.IntN(5), 1+r.Int64N(20))
		wanted := a.gapByWaits()
		want(t, "sums of a ring", a.gap(), wanted)
		counts[wanted.ok]++
	}
	want(t, "with and without multiples", counts[true] > 200 && counts[false] > 50, true)
	// A ring may have as many rules as there can be, each of them once.
	var there32, back32 ringAsking
	for i := range int64(impl.MaxRules) {
		rule := impl.Rule{From: i % 2, To: 1 - i%2, Least: 59, Most: 118}
		there32.rules, there32.ring, there32.along = append(there32.rules, rule), append(there32.ring, i), append(there32.along, true)
		back32.along = append(back32.along, false)
	}
	there32.period, back32.period = 60, 60
	back32.rules, back32.ring = there32.rules, slices.Clone(there32.ring)
	slices.Reverse(back32.ring)
	want(t, "as many rules as there can be", there32.gap(), fraction{1920, 3720, true})
	want(t, "as many rules, back", back32.gap(), fraction{-3720, -1920, true})
}

// TestGapsOfTables checks that the waits of tables that keep all rules of a ring have sums that RingGap tells, and that it fails where there are none.
func TestGapsOfTables(t *testing.T) {
	r := drawer(222)
	counts := map[bool]int{}
	for range 400 {
		long := 2 + r.IntN(3)
		a := drawRing(r, long, 2+r.Int64N(8))
		gap := a.gap()
		tables := keptByHand(int64(long), a.rules, a.period)
		want(t, "there are tables just if there is a multiple", len(tables) > 0, gap.ok)
		sums := map[int64]bool{}
		for _, times := range tables {
			var sum int64
			for place, i := range a.ring {
				wait := waitByHand(a.rules[i], a.period, times)
				if a.along[place] {
					sum += wait
				} else {
					sum -= wait
				}
			}
			sums[sum] = true
			want(t, "a sum", gap.long <= sum && sum <= gap.by && sum%a.period == 0, true)
		}
		want(t, "the least and the greatest sum are there", !gap.ok || sums[gap.long] && sums[gap.by], true)
		counts[gap.ok]++
	}
	want(t, "with and without tables", counts[true] > 100 && counts[false] > 30, true)
}

func TestRingGapFails(t *testing.T) {
	good := ringAsking{[]impl.Rule{{From: 0, To: 1, Most: 5}, {From: 1, To: 2, Most: 5}, {From: 2, To: 0, Most: 5}, {From: 3, To: 4, Most: 5}}, 10, []int64{0, 1, 2}, []bool{true, true, true}}
	want(t, "a ring that is right", good.gap(), fraction{0, 10, true})
	none := fraction{}
	for _, ring := range [][]int64{
		nil, {}, {0}, {0, 1}, {0, 0, 0}, {0, 2, 1}, {1, 0, 2}, {0, 1, 3}, {3, 1, 2}, {0, 1, 4}, {0, 1, -1}, {4, 1, 2}, {-1, 1, 2},
		{0, 1, math.MinInt64}, {0, 1, math.MaxInt64}, {math.MinInt64, 1, 2}, {0, 1, 2, 3}, {0, 1, 2, 0, 1, 2},
	} {
		a := good
		a.ring, a.along = ring, repeated(true, len(ring))
		want(t, "no ring", a.gap(), none)
	}
	for _, along := range [][]bool{nil, {true, true}, {true, true, true, true}, {true, true, false}, {false, true, true}, {true, false, true}, {false, false, false}} {
		a := good
		a.along = along
		want(t, "no ways around", a.gap(), none)
	}
	// Gone to and fro, a rule leads back to where it begins, but it may be there only once.
	fro := ringAsking{good.rules[:1], 10, []int64{0, 0}, []bool{true, false}}
	want(t, "the same rule to and fro", fro.gap(), none)
	for _, period := range []int64{0, -1, 5, impl.MaxPeriod + 1, math.MinInt64, math.MaxInt64} {
		a := good
		a.period = period
		want(t, "a wrong period", a.gap(), none)
	}
	for _, c := range badRules() {
		// Rules of RingGap are those for as many events as there can be.
		if impl.AreRules(impl.MaxEvents, c.rules, c.period) {
			continue
		}
		a := ringAsking{append(slices.Clone(c.rules), good.rules...), c.period, []int64{0, 1}, []bool{true, false}}
		want(t, "wrong rules", a.gap(), none)
	}
	many := ringAsking{repeated(impl.Rule{From: 0, To: 1}, impl.MaxRules+1), 10, []int64{0, 1}, []bool{true, false}}
	want(t, "a rule too many", many.gap(), none)
	many.rules = many.rules[1:]
	want(t, "as many rules as there can be", many.gap(), fraction{0, 0, true})
	many.ring, many.along = append(upwards(impl.MaxRules), 0), repeated(true, impl.MaxRules+1)
	want(t, "an index too many", many.gap(), none)
}
