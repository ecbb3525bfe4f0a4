package tests

import (
	"math"
	"slices"
	"testing"

	"loop.example/g01389/impl"
)

// mixByHand builds the model that is furthest behind, place by place.
func mixByHand(counts []int64) []int64 {
	n := sumByHand(counts)
	var order []int64
	for place := int64(1); place <= n; place++ {
		best, most := int64(-1), int64(math.MinInt64)
		for model, count := range counts {
			built := countOf(order, int64(model))
			if behind := place*count - n*built; built < count && behind > most {
				best, most = int64(model), behind
			}
		}
		order = append(order, best)
	}
	return order
}

// countOf returns how often a list has a number.
func countOf(list []int64, number int64) int64 {
	var count int64
	for _, other := range list {
		if other == number {
			count++
		}
	}
	return count
}

// gapOfMix returns how far an order is from an even one, at each place told from its beginning.
func gapOfMix(counts, order []int64) int64 {
	var gap int64
	for place := range order {
		for model, count := range counts {
			by := int64(place+1)*count - int64(len(order))*countOf(order[:place+1], int64(model))
			gap = max(gap, max(by, -by))
		}
	}
	return gap
}

// wrongCounts are lists that are no counts of models.
func wrongCounts() [][]int64 {
	return [][]int64{
		nil, {}, {0}, {0, 0}, repeated[int64](0, 8), repeated[int64](1, 9), {17}, {1, 17}, {-1}, {2, -1}, {16, 16, 16, 16, 1}, {16, 16, 16, 16, 0, 0, 0, 1},
		repeated[int64](16, 8), {math.MinInt64}, {math.MaxInt64}, {1, math.MaxInt64, math.MaxInt64}, {math.MaxInt64, math.MinInt64, 2},
	}
}

func TestMixedOrder(t *testing.T) {
	cases := []struct{ counts, order []int64 }{
		{[]int64{2, 1}, []int64{0, 1, 0}}, {[]int64{1, 2}, []int64{1, 0, 1}},
		// Of models that are equally far behind, the first one is built.
		{[]int64{1, 1}, []int64{0, 1}}, {[]int64{2, 2}, []int64{0, 1, 0, 1}}, {[]int64{1, 1, 1, 1}, []int64{0, 1, 2, 3}},
		{[]int64{0, 3}, []int64{1, 1, 1}}, {[]int64{3, 0}, []int64{0, 0, 0}}, {[]int64{0, 0, 0, 0, 0, 0, 0, 1}, []int64{7}}, {[]int64{1}, []int64{0}},
		{[]int64{4, 2, 1}, []int64{0, 1, 0, 2, 0, 1, 0}}, {[]int64{3, 1, 0, 1}, []int64{0, 1, 0, 3, 0}},
		{[]int64{16}, repeated[int64](0, 16)}, {[]int64{16, 16, 16, 16}, slices.Repeat(upwards(4), 16)}, {repeated[int64](8, 8), slices.Repeat(upwards(8), 8)},
	}
	for _, c := range cases {
		wantTold(t, "mixed order", told(impl.MixedOrder(c.counts)), c.order)
	}
	r := drawer(151)
	for range 300 {
		counts := drawList(r, 1+r.IntN(impl.MaxModels), 0, 8)
		counts[r.IntN(len(counts))]++
		order := mixByHand(counts)
		if len(order) > 64 {
			wantNotTold(t, "too many", told(impl.MixedOrder(counts)))
			continue
		}
		wantTold(t, "mixed order", told(impl.MixedOrder(counts)), order)
		for model, count := range counts {
			want(t, "each model as often as it is counted", countOf(order, int64(model)), count)
		}
	}
}

func TestMixedGap(t *testing.T) {
	cases := []struct {
		counts, order []int64
		gap           int64
	}{
		{[]int64{2, 1}, []int64{0, 1, 0}, 1}, {[]int64{2, 1}, []int64{0, 0, 1}, 2}, {[]int64{2, 1}, []int64{1, 0, 0}, 2},
		{[]int64{1}, []int64{0}, 0}, {[]int64{16}, repeated[int64](0, 16), 0}, {[]int64{1, 0}, []int64{0}, 0}, {[]int64{0, 2}, []int64{1, 1}, 0},
		{[]int64{1, 1}, []int64{1, 0}, 1}, {[]int64{2, 2}, []int64{0, 0, 1, 1}, 4},
		// A model can be more behind than any other one is ahead.
		{[]int64{2, 2, 2}, []int64{0, 1, 0, 1, 2, 2}, 8},
		{[]int64{16, 16, 16, 16}, slices.Concat(repeated[int64](3, 16), repeated[int64](1, 16), repeated[int64](2, 16), repeated[int64](0, 16)), 768},
	}
	for _, c := range cases {
		wantTold(t, "gap", told(impl.MixedGap(c.counts, c.order)), c.gap)
	}
	r := drawer(152)
	for range 300 {
		counts := drawList(r, 1+r.IntN(impl.MaxModels), 0, 7)
		counts[r.IntN(len(counts))]++
		order := mixByHand(counts)
		wantTold(t, "gap of the mixed order", told(impl.MixedGap(counts, order)), gapOfMix(counts, order))
		r.Shuffle(len(order), func(i, k int) { order[i], order[k] = order[k], order[i] })
		wantTold(t, "gap of another order", told(impl.MixedGap(counts, order)), gapOfMix(counts, order))
	}
}

func TestModelsFail(t *testing.T) {
	for _, counts := range wrongCounts() {
		wantNotTold(t, "wrong counts", told(impl.MixedOrder(counts)))
		var order []int64
		for model, count := range counts {
			if count >= 0 && count < 100 {
				order = append(order, repeated(int64(model), int(count))...)
			}
		}
		wantNotTold(t, "wrong counts", told(impl.MixedGap(counts, order)))
	}
	for _, order := range [][]int64{nil, {}, {0, 1}, {0, 0, 1, 0}, {0, 1, 1}, {0, 0, 0}, {0, 0, 2}, {-1, 0, 1}, {0, 1, math.MaxInt64}, {math.MinInt64, 0, 1}} {
		wantNotTold(t, "an order that does not have each model as often", told(impl.MixedGap([]int64{2, 1}, order)))
	}
	wantNotTold(t, "a model of which there are none", told(impl.MixedGap([]int64{2, 0, 1}, []int64{0, 1, 0})))
}
