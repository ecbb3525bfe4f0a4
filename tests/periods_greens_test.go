package tests

import (
	"fmt"
	"math"
	"math/rand/v2"
	"slices"
	"testing"

	"loop.example/g01389/impl"
)

// drawAmounts returns n numbers of at least 0: of all kinds, or near 0.
func drawAmounts(r *rand.Rand, n int) []float32 {
	list := make([]float32, n)
	for i := range list {
		switch r.IntN(8) {
		case 0:
			list[i] = []float32{0, number(negativeZero), number(leastBits), number(mostBits), 1}[r.IntN(5)]
		case 1:
			list[i] = float32(math.Abs(float64(drawNumber(r))))
		default:
			list[i] = r.Float32() / 4
		}
	}
	return list
}

// wrongAmounts are lists that are no numbers of at least 0, or too many of them, or none.
func wrongAmounts() [][]float32 {
	lists := [][]float32{nil, {}, repeated[float32](0.01, impl.MaxEvents+1), {number(0x80000001)}, {0.25, -0.25}, {-0.25, 0.5}, {number(0xff7fffff), 0.5}}
	for _, x := range notFinite() {
		lists = append(lists, []float32{x}, []float32{0.25, x}, []float32{x, 0.25})
	}
	return lists
}

// areFinite reports whether all numbers are finite.
func areFinite(list []rounded) bool {
	return !slices.ContainsFunc(list, func(x rounded) bool { return !x.isFinite() })
}

// wantNumbers fails if a function that returns numbers has not returned these ones, or has not failed where one is not finite.
func wantNumbers(t *testing.T, what string, got []float32, ok bool, wanted []rounded) {
	t.Helper()
	if !areFinite(wanted) {
		wantListFailure(t, what, got, ok)
		return
	}
	if !ok || len(got) != len(wanted) {
		t.Errorf("%s: got %v %v, want %v", what, got, ok, wanted)
		return
	}
	for i, x := range got {
		wantBits(t, fmt.Sprint(what, " at ", i), x, wanted[i].bits())
	}
}

func TestCycleOf(t *testing.T) {
	cases := []struct {
		flows       []float32
		lost, cycle float32
	}{
		{[]float32{0.25, 0.25}, 2, 16}, {[]float32{0}, 0, 5}, {[]float32{number(negativeZero)}, number(negativeZero), 5}, {[]float32{0.5}, 10, 40},
		{repeated[float32](0.0625, impl.MaxEvents), 2, 32}, {[]float32{number(oneBits - 1)}, 0, 5 << 24}, {[]float32{number(leastBits)}, 2, 8},
	}
	for _, c := range cases {
		wantTold(t, "cycle", told(impl.CycleOf(c.flows, c.lost)), c.cycle)
	}
	r := drawer(251)
	counts := map[bool]int{}
	for range 20000 {
		flows, lost := drawAmounts(r, 1+r.IntN(impl.MaxEvents)), drawAmounts(r, 1)[0]
		free := round(1).sub(sumOf(flows))
		got, ok := impl.CycleOf(flows, lost)
		counts[ok]++
		if free <= 0 {
			wantFailure(t, "too many flows", got, ok)
			continue
		}
		wantNumber(t, "cycle", got, ok, round(1.5).mul(rounded(lost)).add(5).div(free))
	}
	want(t, "with and without cycles", counts[true] > 1000 && counts[false] > 1000, true)
}

func TestCycleOfFails(t *testing.T) {
	for _, flows := range wrongAmounts() {
		wantNotTold(t, "wrong flows", told(impl.CycleOf(flows, 2)))
	}
	for _, lost := range append(notFinite(), number(0x80000001), -1) {
		wantNotTold(t, "wrong times", told(impl.CycleOf([]float32{0.25}, lost)))
	}
	for _, flows := range [][]float32{{1}, {0.5, 0.5}, {0.75, 0.5}, {number(mostBits)}, {number(mostBits), number(mostBits)}, {number(leastBits), 1}} {
		wantNotTold(t, "too many flows", told(impl.CycleOf(flows, 2)))
	}
	// The cycle is not finite: its upper number is not, or the quotient is not.
	wantNotTold(t, "too long", told(impl.CycleOf([]float32{0.25}, number(mostBits))))
	wantNotTold(t, "too long by little room", told(impl.CycleOf([]float32{number(oneBits - 1)}, 1e35)))
	wantTold(t, "nearly too long", told(impl.CycleOf([]float32{0}, 2e38)), 3e38)
}

func TestGreenShares(t *testing.T) {
	cases := []struct {
		flows       []float32
		lost, cycle float32
		shares      []float32
	}{
		{[]float32{0.25, 0.25}, 4, 24, []float32{10, 10}}, {[]float32{0.5, 0.25, 0.25, 0}, 0, 8, []float32{4, 2, 2, 0}}, {[]float32{7}, 4, 4, []float32{0}},
		{[]float32{2, 6}, 1, 9, []float32{2, 6}}, {repeated[float32](1, impl.MaxEvents), 0, 24, repeated[float32](2, impl.MaxEvents)},
		{[]float32{0, 1}, 0, 0, []float32{0, 0}}, {[]float32{number(leastBits)}, 0, 8, []float32{8}},
		// The sum is not finite, but what is returned is.
		{[]float32{number(mostBits), number(mostBits), 1}, 0, 1, []float32{0, 0, 0}},
	}
	for _, c := range cases {
		wantTold(t, "shares", told(impl.GreenShares(c.flows, c.lost, c.cycle)), c.shares)
	}
	r := drawer(252)
	counts := map[bool]int{}
	for range 20000 {
		flows, times := drawAmounts(r, 1+r.IntN(impl.MaxEvents)), drawAmounts(r, 2)
		lost, cycle := min(times[0], times[1]), max(times[0], times[1])
		sum := sumOf(flows)
		got, ok := impl.GreenShares(flows, lost, cycle)
		counts[ok]++
		if sum == 0 {
			wantListFailure(t, "no flows", got, ok)
			continue
		}
		var shares []rounded
		for _, flow := range flows {
			shares = append(shares, rounded(cycle).sub(rounded(lost)).mul(rounded(flow)).div(sum))
		}
		wantNumbers(t, "shares", got, ok, shares)
	}
	want(t, "with and without shares", counts[true] > 1000 && counts[false] > 100, true)
}

func TestGreenSharesFail(t *testing.T) {
	for _, flows := range wrongAmounts() {
		wantNotTold(t, "wrong flows", told(impl.GreenShares(flows, 4, 24)))
	}
	for _, x := range append(notFinite(), number(0x80000001), -1) {
		wantNotTold(t, "wrong lost times", told(impl.GreenShares([]float32{0.25}, x, 24)))
		wantNotTold(t, "wrong cycles", told(impl.GreenShares([]float32{0.25}, 0, x)))
		wantNotTold(t, "both are wrong", told(impl.GreenShares([]float32{0.25}, x, x)))
	}
	wantNotTold(t, "a cycle too short", told(impl.GreenShares([]float32{0.25}, 4, number(bitsOf(4)-1))))
	wantNotTold(t, "no flow", told(impl.GreenShares([]float32{0, number(negativeZero)}, 4, 24)))
	wantNotTold(t, "a share that is not finite", told(impl.GreenShares([]float32{3, 1}, 0, 2e38)))
	wantNotTold(t, "the last share is not finite", told(impl.GreenShares([]float32{1, 3}, 0, 2e38)))
}

// A wave is what GreenWave is asked for.
type wave struct {
	places              []float32
	speed, cycle, green float32
	steps               int64
}

// A waving is what GreenWave returns.
type waving struct {
	offsets []float32
	band    float32
	ok      bool
}

// told returns what GreenWave tells.
func (w wave) told() waving {
	offsets, band, ok := impl.GreenWave(w.places, w.speed, w.cycle, w.green, w.steps)
	return waving{offsets, band, ok}
}

// wantNoWave fails if GreenWave has not failed.
func wantNoWave(t *testing.T, what string, w wave) {
	t.Helper()
	got := w.told()
	wantListFailure(t, what, got.offsets, got.ok)
	wantBits(t, what, got.band, 0)
}

// wantWave fails if GreenWave has failed, or has returned something else.
func wantWave(t *testing.T, what string, w wave, offsets []rounded, band rounded) {
	t.Helper()
	got := w.told()
	wantNumbers(t, what, got.offsets, got.ok, offsets)
	wantBits(t, what, got.band, band.bits())
}

// byHand returns what GreenWave tells, of numbers that are right.
func (w wave) byHand() (offsets []rounded, band rounded, ok bool) {
	least, most := rounded(math.Inf(1)), rounded(math.Inf(-1))
	for _, place := range w.places {
		waves := rounded(place).div(rounded(w.speed).mul(rounded(w.cycle)))
		if math.IsNaN(float64(waves)) || waves >= 1000000 {
			return nil, 0, false
		}
		x := waves.sub(rounded(math.Floor(float64(waves))))
		steps := rounded(w.steps)
		m := rounded(math.Floor(float64(x.mul(steps).add(0.5)))).div(steps)
		if m == 1 {
			offsets = append(offsets, 0)
		} else {
			offsets = append(offsets, m)
		}
		miss := m.sub(x)
		least, most = min(least, miss), max(most, miss)
	}
	band = rounded(w.green).sub(most.sub(least))
	if band < 0 {
		band = 0
	}
	return offsets, band, true
}

func TestGreenWave(t *testing.T) {
	cases := []struct {
		what string
		wave
		offsets []rounded
		band    rounded
	}{
		{"quarters", wave{[]float32{0, 3, 6}, 1, 12, 0.5, 4}, []rounded{0, 0.25, 0.5}, 0.5},
		{"the last quarter is nearer to 1", wave{[]float32{0, 11}, 1, 12, 0.5, 4}, []rounded{0, 0}, round(0.5).sub(round(1).sub(round(11).div(12)))},
		{"half of a step goes up", wave{[]float32{0.125, 0.875}, 1, 1, 1, 4}, []rounded{0.25, 0}, 1},
		{"errors to both sides", wave{[]float32{0.3125, 0.4375}, 1, 1, 1, 4}, []rounded{0.25, 0.5}, 0.875},
		{"no band", wave{[]float32{0.3125, 0.4375}, 1, 1, 0.125, 4}, []rounded{0.25, 0.5}, 0},
		{"less than no band", wave{[]float32{0.3125, 0.4375}, 1, 1, 0.0625, 4}, []rounded{0.25, 0.5}, 0},
		{"no green", wave{[]float32{0.5}, 1, 1, 0, 2}, []rounded{0.5}, 0},
		{"no green with a sign is not less than +0", wave{[]float32{0.5}, 1, 1, number(negativeZero), 2}, []rounded{0.5}, rounded(math.Copysign(0, -1))},
		{"one step", wave{[]float32{0.25, 0.5, 0.75}, 1, 1, 1, 1}, []rounded{0, 0, 0}, 0.25},
		{"whole waves", wave{[]float32{2, 7, number(negativeZero)}, 0.5, 2, 1, 100}, []rounded{0, 0, 0}, 1},
		{"one place", wave{[]float32{0.3}, 1, 1, 0.75, 3}, []rounded{round(1).div(3)}, 0.75},
		{"a wave that has no end", wave{[]float32{number(mostBits)}, number(mostBits), number(mostBits), 1, 4}, []rounded{0}, 1},
		{"nearly too far", wave{[]float32{999999.9375}, 1, 1, 1, 16}, []rounded{0.9375}, 1},
		{"as many places as there can be", wave{make([]float32, impl.MaxEvents), 1, 1, 1, 100}, make([]rounded, impl.MaxEvents), 1},
	}
	for _, c := range cases {
		wantWave(t, c.what, c.wave, c.offsets, c.band)
	}
	r := drawer(253)
	counts := map[bool]int{}
	for range 20000 {
		w := wave{drawAmounts(r, 1+r.IntN(impl.MaxEvents)), r.Float32() + 0.001, r.Float32() + 0.001, r.Float32(), 1 + r.Int64N(100)}
		if r.IntN(2) == 0 {
			for i := range w.places {
				w.places[i] = r.Float32() * 9
			}
		}
		offsets, band, ok := w.byHand()
		counts[ok]++
		if !ok {
			wantNoWave(t, "too far", w)
			continue
		}
		wantWave(t, "a wave", w, offsets, band)
		for _, offset := range w.told().offsets {
			want(t, "an offset is less than 1", offset >= 0 && offset < 1, true)
		}
	}
	want(t, "with and without waves", counts[true] > 1000 && counts[false] > 1000, true)
}

func TestGreenWaveFails(t *testing.T) {
	good := wave{[]float32{0, 3}, 1, 12, 0.5, 4}
	want(t, "a wave that is right", good.told().ok, true)
	with := func(change func(w *wave)) wave {
		w := good
		change(&w)
		return w
	}
	for _, places := range wrongAmounts() {
		wantNoWave(t, "wrong places", with(func(w *wave) { w.places = places }))
	}
	for _, x := range append(notFinite(), 0, number(negativeZero), number(0x80000001), -1) {
		wantNoWave(t, "a wrong speed", with(func(w *wave) { w.speed = x }))
		wantNoWave(t, "a wrong cycle", with(func(w *wave) { w.cycle = x }))
		wantNoWave(t, "both less than 0", with(func(w *wave) { w.speed, w.cycle = x, x }))
	}
	for _, x := range append(notFinite(), number(0x80000001), number(oneBits+1), 2, -0.5) {
		wantNoWave(t, "a wrong green", with(func(w *wave) { w.green = x }))
	}
	for _, steps := range []int64{0, -1, 101, math.MinInt64, math.MaxInt64} {
		wantNoWave(t, "wrong steps", with(func(w *wave) { w.steps = steps }))
	}
	wantNoWave(t, "just too far", with(func(w *wave) { w.places, w.cycle = []float32{0, 1000000}, 1 }))
	wantNoWave(t, "far too far", with(func(w *wave) { w.places, w.cycle = []float32{number(mostBits), 0}, number(leastBits) }))
	// The product is too small for a number other than 0.
	wantNoWave(t, "no way in a cycle", with(func(w *wave) { w.speed, w.cycle = number(leastBits), 0.25 }))
	wantNoWave(t, "no way in a cycle from the beginning", with(func(w *wave) { w.places, w.speed, w.cycle = []float32{0}, number(leastBits), 0.25 }))
}
