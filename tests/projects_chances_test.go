package tests

import (
	"math"
	"math/rand/v2"
	"testing"

	"loop.example/g01389/impl"
)

// A rounded number is a 64-bit one that is rounded to 32 bits after each operation: for sums, differences, products, quotients
// and roots, this is the same as if the operation were a 32-bit one, and no two of them can be made one.
type rounded float64

func round(x float64) rounded { return rounded(float32(x)) }

func (x rounded) add(y rounded) rounded { return round(float64(x) + float64(y)) }
func (x rounded) sub(y rounded) rounded { return round(float64(x) - float64(y)) }
func (x rounded) mul(y rounded) rounded { return round(float64(x) * float64(y)) }
func (x rounded) div(y rounded) rounded { return round(float64(x) / float64(y)) }
func (x rounded) root() rounded         { return round(math.Sqrt(float64(x))) }
func (x rounded) bits() uint32          { return bitsOf(float32(x)) }
func (x rounded) isFinite() bool        { return !math.IsNaN(float64(x)) && !math.IsInf(float64(x), 0) }

// sumOf returns a sum from +0 on.
func sumOf(list []float32) rounded {
	var sum rounded
	for _, x := range list {
		sum = sum.add(rounded(x))
	}
	return sum
}

// wantNumber fails if a function that returns a number has not returned this one, or has not failed where it is not finite.
func wantNumber(t *testing.T, what string, got float32, ok bool, wanted rounded) {
	t.Helper()
	if !wanted.isFinite() {
		if ok || bitsOf(got) != 0 {
			t.Errorf("%s: got %v %v, want a failure", what, got, ok)
		}
	} else if !ok {
		t.Errorf("%s: failed, want %v", what, wanted)
	} else {
		wantBits(t, what, got, wanted.bits())
	}
}

// drawNumber returns a number with any exponent, or with one near 0.
func drawNumber(r *rand.Rand) float32 {
	exponent := r.IntN(12) - 6
	if r.IntN(4) == 0 {
		exponent = r.IntN(278) - 150
	}
	return float32(math.Ldexp(2*r.Float64()-1, exponent))
}

// drawRising returns three numbers, none of which is less than the one before.
func drawRising(r *rand.Rand) (low, likely, high float32) {
	low, likely, high = drawNumber(r), drawNumber(r), drawNumber(r)
	low, high = min(low, likely, high), max(low, likely, high)
	if likely = low + r.Float32()*(high-low); !(likely >= low) || r.IntN(9) == 0 {
		likely = low
	}
	if !(likely <= high) || r.IntN(9) == 0 {
		likely = high
	}
	return low, likely, high
}

// notFinite are numbers that are none for these functions.
func notFinite() []float32 { return []float32{number(infinity), number(minusInf), number(notNumber)} }

// wantNoPair fails if a function with two numbers has not failed.
func wantNoPair[A, B comparable](t *testing.T, what string) func(a A, b B, ok bool) {
	return func(a A, b B, ok bool) {
		t.Helper()
		wantFailure(t, what, a, ok)
		wantFailure(t, what, b, ok)
	}
}

func TestMeanTime(t *testing.T) {
	r := drawer(61)
	for range 30000 {
		low, likely, high := drawRising(r)
		mean := rounded(low).add(round(4).mul(rounded(likely))).add(rounded(high)).div(6)
		sixth := rounded(high).sub(rounded(low)).div(6)
		spread := sixth.mul(sixth)
		gotMean, gotSpread, ok := impl.MeanTime(low, likely, high)
		if !mean.isFinite() || !spread.isFinite() {
			wantNoPair[float32, float32](t, "not finite")(gotMean, gotSpread, ok)
			continue
		}
		wantNumber(t, "mean", gotMean, ok, mean)
		wantNumber(t, "spread", gotSpread, ok, spread)
	}
	mean, spread, ok := impl.MeanTime(2, 2, 2)
	want(t, "all equal", ok && mean == 2 && spread == 0, true)
	mean, spread, ok = impl.MeanTime(-7, 1, 11)
	want(t, "less than 0", ok && mean == 8.0/6 && spread == 9, true)
}

func TestMeanTimeFails(t *testing.T) {
	fails := wantNoPair[float32, float32](t, "wrong numbers")
	fails(impl.MeanTime(2, 1, 3))
	fails(impl.MeanTime(1, 3, 2))
	fails(impl.MeanTime(1, number(oneBits-1), 2))
	fails(impl.MeanTime(0, 2, number(0x3fffffff)))
	fails(impl.MeanTime(number(0xff7fffff), 0, number(mostBits)))
	fails(impl.MeanTime(0, number(mostBits), number(mostBits)))
	fails(impl.MeanTime(0, 0, 1e21))
	for _, x := range notFinite() {
		fails(impl.MeanTime(x, 0, 0))
		fails(impl.MeanTime(0, x, 0))
		fails(impl.MeanTime(0, 0, x))
		fails(impl.MeanTime(x, x, x))
	}
}

// chanceByHand returns what EndChance does.
func chanceByHand(means, spreads []float32, end float32) rounded {
	z := rounded(end).sub(sumOf(means)).div(sumOf(spreads).root())
	bent := round(0.070566).mul(z).mul(z).mul(z)
	x := rounded(0).sub(round(1.5976).mul(z).add(bent))
	return round(1).div(round(1).add(rounded(impl.ExpNumber(float32(x)))))
}

func TestEndChance(t *testing.T) {
	r := drawer(62)
	for range 20000 {
		var means, spreads []float32
		for range 1 + r.IntN(impl.MaxTasks) {
			means = append(means, drawNumber(r))
			spreads = append(spreads, drawNumber(r))
			if last := len(spreads) - 1; spreads[last] < 0 {
				spreads[last] = -spreads[last]
			}
		}
		if sumOf(spreads) == 0 {
			continue
		}
		end := drawNumber(r) + float32(sumOf(means))
		if !rounded(end).isFinite() {
			continue
		}
		got, ok := impl.EndChance(means, spreads, end)
		wantNumber(t, "chance", got, ok, chanceByHand(means, spreads, end))
		want(t, "a chance is from 0 to 1", !ok || 0 <= got && got <= 1, true)
	}
	for _, c := range []struct {
		means, spreads []float32
		end, chance    float32
	}{
		{[]float32{1, 2}, []float32{1, 3}, 3, 0.5}, {[]float32{0}, []float32{1}, 1000, 1}, {[]float32{0}, []float32{1}, -1000, 0},
		{[]float32{1}, []float32{number(leastBits)}, 1, 0.5}, {[]float32{number(negativeZero), 0}, []float32{number(negativeZero), 1}, number(negativeZero), 0.5},
		{repeated[float32](1, impl.MaxTasks), repeated[float32](1, impl.MaxTasks), impl.MaxTasks, 0.5},
		// Only what is returned must be finite.
		{[]float32{number(mostBits), number(mostBits)}, []float32{1, 1}, 0, 0}, {[]float32{0, 0}, []float32{number(mostBits), number(mostBits)}, 9, 0.5},
	} {
		got, ok := impl.EndChance(c.means, c.spreads, c.end)
		want(t, "succeeds", ok, true)
		wantBits(t, "chance", got, bitsOf(c.chance))
	}
	// The normal distribution has 0.8413 at one root of the spread behind the mean, and 0.0228 at two before it.
	after, _ := impl.EndChance([]float32{5}, []float32{4}, 7)
	before, _ := impl.EndChance([]float32{5}, []float32{4}, 1)
	want(t, "nearly", math.Abs(float64(after)-0.8413) < 0.001 && math.Abs(float64(before)-0.0228) < 0.001, true)
}

func TestEndChanceFails(t *testing.T) {
	fails := func(means, spreads []float32, end float32) {
		t.Helper()
		chance, ok := impl.EndChance(means, spreads, end)
		wantFailure(t, "wrong numbers", chance, ok)
	}
	fails(nil, nil, 1)
	fails([]float32{1}, nil, 1)
	fails(nil, []float32{1}, 1)
	fails([]float32{1, 1}, []float32{1}, 1)
	fails([]float32{1}, []float32{1, 1}, 1)
	fails(repeated[float32](1, impl.MaxTasks+1), repeated[float32](1, impl.MaxTasks+1), 1)
	fails([]float32{1}, []float32{0}, 3)
	fails([]float32{1, 1}, []float32{0, number(negativeZero)}, 3)
	fails([]float32{1, 1}, []float32{2, number(0x80000001)}, 3)
	fails([]float32{number(mostBits), number(mostBits)}, []float32{number(mostBits), number(mostBits)}, 0)
	for _, x := range notFinite() {
		fails([]float32{x}, []float32{1}, 1)
		fails([]float32{1, x}, []float32{1, 1}, 1)
		fails([]float32{1}, []float32{x}, 1)
		fails([]float32{1, 1}, []float32{1, x}, 1)
		fails([]float32{1}, []float32{1}, x)
	}
}

// drawnByHand returns what TimeDrawn does; the seed wraps around on its own.
func drawnByHand(low, likely, high float32, seed uint32) (rounded, uint32) {
	seed = seed*1664525 + 1013904223
	u := round(math.Ldexp(float64(seed>>8), -24))
	a, b, c := rounded(low), rounded(likely), rounded(high)
	w := c.sub(a)
	if u < b.sub(a).div(w) {
		return a.add(u.mul(w).mul(b.sub(a)).root()), seed
	}
	return c.sub(round(1).sub(u).mul(w).mul(c.sub(b)).root()), seed
}

func TestTimeDrawn(t *testing.T) {
	r := drawer(63)
	for range 30000 {
		low, likely, high := drawRising(r)
		seed := r.Uint32()
		got, next, ok := impl.TimeDrawn(low, likely, high, int64(seed))
		if low == high {
			wantNoPair[float32, int64](t, "no room")(got, next, ok)
			continue
		}
		time, then := drawnByHand(low, likely, high, seed)
		wantNumber(t, "drawn time", got, ok, time)
		want(t, "the seed then", ok && next != int64(then) || !ok && next != 0, false)
	}
	for _, seed := range []uint32{0, 1, 255, 256, 1 << 31, math.MaxUint32} {
		time, then := drawnByHand(1, 1.5, 3, seed)
		got, next, ok := impl.TimeDrawn(1, 1.5, 3, int64(seed))
		wantNumber(t, "drawn time", got, ok, time)
		want(t, "the seed then", next, int64(then))
	}
}

// TestTimeDrawnWhereBothMeet draws chances that are just those of the likely time: it is told from the greatest one there.
func TestTimeDrawnWhereBothMeet(t *testing.T) {
	r := drawer(67)
	met, told := 0, 0
	for range 20000 {
		seed := r.Uint32()
		_, then := drawnByHand(0, 1, 2, seed)
		chance, high := round(math.Ldexp(float64(then>>8), -24)), round(1+9*r.Float64())
		likely := chance.mul(high)
		if likely.div(high) != chance {
			continue
		}
		met++
		wanted := high.sub(round(1).sub(chance).mul(high).mul(high.sub(likely)).root())
		if wanted != chance.mul(high).mul(likely).root() {
			told++
		}
		got, _, ok := impl.TimeDrawn(0, float32(likely), float32(high), int64(seed))
		wantNumber(t, "drawn likely time", got, ok, wanted)
	}
	want(t, "both can be told apart", met > 1000 && told > 100, true)
}

// TestTimesDrawn checks that times are from low to high, and that their mean and their spread are those of a triangle.
func TestTimesDrawn(t *testing.T) {
	var seed int64
	var sum, squares float64
	const count = 100000
	for range count {
		time, next, ok := impl.TimeDrawn(1, 2, 6, seed)
		want(t, "a time from low to high", ok && 1 <= time && time <= 6, true)
		seed = next
		sum += float64(time)
		squares += float64(time) * float64(time)
	}
	mean := sum / count
	want(t, "mean", math.Abs(mean-3) < 0.02, true)
	want(t, "spread", math.Abs(squares/count-mean*mean-21.0/18) < 0.02, true)
}

func TestTimeDrawnFails(t *testing.T) {
	fails := wantNoPair[float32, int64](t, "wrong numbers")
	fails(impl.TimeDrawn(1, 1, 1, 0))
	fails(impl.TimeDrawn(number(negativeZero), 0, 0, 0))
	fails(impl.TimeDrawn(2, 1, 3, 0))
	fails(impl.TimeDrawn(1, 4, 3, 0))
	fails(impl.TimeDrawn(3, 2, 1, 0))
	for _, seed := range []int64{-1, 4294967296, math.MinInt64, math.MaxInt64} {
		fails(impl.TimeDrawn(1, 2, 3, seed))
	}
	most := number(mostBits)
	fails(impl.TimeDrawn(-most, 0, most, 0))
	fails(impl.TimeDrawn(0, 0, most, 0))
	for _, x := range notFinite() {
		fails(impl.TimeDrawn(x, 1, 2, 0))
		fails(impl.TimeDrawn(0, x, 2, 0))
		fails(impl.TimeDrawn(0, 1, x, 0))
	}
}

// An ending is what EndsDrawn returns.
type ending struct {
	ends   []int64
	shares []float32
	seed   int64
	ok     bool
}

func endingOf(ends []int64, shares []float32, seed int64, ok bool) ending {
	return ending{ends, shares, seed, ok}
}

// endsByHand returns what EndsDrawn does.
func endsByHand(list []impl.Task, low, high float32, seed, count int64) ending {
	var e ending
	tight := make([]int64, len(list))
	state := uint32(seed)
	for range count {
		drawn := copyOfTasks(list)
		for i := range drawn {
			factor, next := drawnByHand(low, 1, high, state)
			drawn[i].Time = int64(math.Trunc(float64(factor.mul(1000)))) * list[i].Time / 1000
			state = next
		}
		early, end := earlyByHand(drawn, make([]int64, len(list)))
		e.ends = append(e.ends, end)
		for i, late := range lateByHand(drawn, end) {
			if late == early[i] {
				tight[i]++
			}
		}
	}
	for _, n := range tight {
		e.shares = append(e.shares, float32(rounded(n).div(rounded(count))))
	}
	e.seed = int64(state)
	return e
}

// wantEnding fails if EndsDrawn has failed, or has returned something else.
func wantEnding(t *testing.T, what string, got, wanted ending) {
	t.Helper()
	want(t, what+" succeed", got.ok, true)
	wantList(t, what, got.ends, wanted.ends)
	want(t, what+": shares", len(got.shares), len(wanted.shares))
	for i, share := range got.shares {
		wantBits(t, what+": share", share, bitsOf(wanted.shares[i]))
	}
	want(t, what+": seed", got.seed, wanted.seed)
}

func TestEndsDrawn(t *testing.T) {
	r := drawer(64)
	for range 300 {
		list := drawTasks(r, 1+r.IntN(impl.MaxTasks), -r.Int64N(6))
		for i := range list {
			list[i].Time *= r.Int64N(26)
		}
		low, high := r.Float32(), 1+3*r.Float32()
		switch r.IntN(5) {
		case 0:
			low = 1
		case 1:
			high = 1
		case 2:
			low, high = 0, 4
		}
		if low == high {
			continue
		}
		seed, count := int64(r.Uint32()), 1+r.Int64N(64)
		got := endingOf(impl.EndsDrawn(list, low, high, seed, count))
		wantEnding(t, "drawn ends", got, endsByHand(list, low, high, seed, count))
	}
	none := endingOf(impl.EndsDrawn([]impl.Task{{}}, 0, 2, 0, 2))
	wantEnding(t, "no time", none, endsByHand([]impl.Task{{}}, 0, 2, 0, 2))
	wantList(t, "no time", none.ends, []int64{0, 0})
	negative := endingOf(impl.EndsDrawn(threeTasks(), number(negativeZero), 1, math.MaxUint32, 64))
	wantEnding(t, "from -0", negative, endsByHand(threeTasks(), number(negativeZero), 1, math.MaxUint32, 64))
	great := endingOf(impl.EndsDrawn(greatTasks(), 1, 4, 5, 64))
	wantEnding(t, "great tasks", great, endsByHand(greatTasks(), 1, 4, 5, 64))
	want(t, "Times are greater than 100", great.ends[0] > 3100, true)
}

func TestEndsDrawnFails(t *testing.T) {
	fails := func(ends []int64, shares []float32, seed int64, ok bool) {
		t.Helper()
		wantListFailure(t, "wrong numbers", ends, ok)
		wantListFailure(t, "wrong numbers", shares, ok)
		wantFailure(t, "wrong numbers", seed, ok)
	}
	list := threeTasks()
	for _, count := range []int64{0, -1, 65, math.MinInt64, math.MaxInt64} {
		fails(impl.EndsDrawn(list, 0.5, 2, 0, count))
	}
	for _, seed := range []int64{-1, 4294967296, math.MinInt64, math.MaxInt64} {
		fails(impl.EndsDrawn(list, 0.5, 2, seed, 1))
	}
	fails(impl.EndsDrawn(list, 1, 1, 0, 1))
	for _, low := range append(notFinite(), number(0x80000001), -1, number(oneBits+1)) {
		fails(impl.EndsDrawn(list, low, 2, 0, 1))
	}
	for _, high := range append(notFinite(), number(oneBits-1), 0, number(0x40800001)) {
		fails(impl.EndsDrawn(list, 0.5, high, 0, 1))
	}
	for _, bad := range badTasks() {
		fails(impl.EndsDrawn(bad, 0.5, 2, 0, 1))
	}
}

func TestBufferOf(t *testing.T) {
	r := drawer(65)
	for range 20000 {
		var spreads []float32
		for range 1 + r.IntN(impl.MaxTasks) {
			spreads = append(spreads, float32(math.Abs(float64(drawNumber(r)))))
		}
		factor := drawNumber(r)
		got, ok := impl.BufferOf(spreads, factor)
		wantNumber(t, "buffer", got, ok, rounded(factor).mul(sumOf(spreads).root()))
	}
	for _, c := range []struct {
		spreads        []float32
		factor, buffer float32
	}{
		{[]float32{1, 3}, 2, 4}, {[]float32{1, 3}, -2, -4}, {[]float32{0}, 5, 0}, {[]float32{number(negativeZero)}, 5, 0},
		{[]float32{4}, number(negativeZero), number(negativeZero)}, {repeated[float32](1, impl.MaxTasks), 1, 4},
	} {
		got, ok := impl.BufferOf(c.spreads, c.factor)
		want(t, "succeeds", ok, true)
		wantBits(t, "buffer", got, bitsOf(c.buffer))
	}
}

func TestBufferOfFails(t *testing.T) {
	most := number(mostBits)
	for _, c := range []struct {
		spreads []float32
		factor  float32
	}{
		{nil, 2}, {repeated[float32](1, impl.MaxTasks+1), 2}, {[]float32{1, number(0x80000001)}, 2}, {[]float32{-1}, 2},
		{[]float32{most, most}, 1}, {[]float32{most, most}, 0}, {[]float32{most}, most}, {[]float32{most}, -most},
	} {
		buffer, ok := impl.BufferOf(c.spreads, c.factor)
		wantFailure(t, "wrong numbers", buffer, ok)
	}
	for _, x := range notFinite() {
		buffer, ok := impl.BufferOf([]float32{1, x}, 2)
		wantFailure(t, "a wrong spread", buffer, ok)
		buffer, ok = impl.BufferOf([]float32{1}, x)
		wantFailure(t, "a wrong factor", buffer, ok)
	}
}

func TestProgressOf(t *testing.T) {
	r := drawer(66)
	for range 300 {
		list := drawTasks(r, 1+r.IntN(impl.MaxTasks), -4)
		starts := drawList(r, len(list), 0, 30)
		at := r.Int64N(40)
		var done, all int64
		for time := range int64(40) {
			needs := needsAt(list, starts, upwards(len(list)), time)
			all += needs
			if time < at {
				done += needs
			}
		}
		gotDone, gotAll, ok := impl.ProgressOf(list, starts, at)
		want(t, "progress succeeds", ok, true)
		want(t, "done", gotDone, done)
		want(t, "all", gotAll, all)
	}
	for _, c := range []struct{ at, done int64 }{{0, 0}, {1, 2}, {2, 4}, {3, 5}, {4, 6}, {100000, 6}} {
		done, all, ok := impl.ProgressOf(threeTasks(), []int64{0, 0, 3}, c.at)
		want(t, "progress", ok && done == c.done && all == 6, true)
	}
	done, all, ok := impl.ProgressOf([]impl.Task{{Time: 9, Needs: 2}}, []int64{100000}, 100000)
	want(t, "at the greatest start", ok && done == 0 && all == 18, true)
	done, all, ok = impl.ProgressOf([]impl.Task{{Needs: 2}}, []int64{0}, 5)
	want(t, "no time", ok && done == 0 && all == 0, true)
}

func TestProgressOfFails(t *testing.T) {
	fails := wantNoPair[int64, int64](t, "wrong numbers")
	list := repeated(impl.Task{Time: 2, Needs: 1}, 2)
	for _, starts := range wrongStarts() {
		fails(impl.ProgressOf(list, starts, 5))
	}
	for _, at := range []int64{-1, 100001, math.MinInt64, math.MaxInt64} {
		fails(impl.ProgressOf(list, []int64{0, 2}, at))
	}
	for _, bad := range badTasks() {
		fails(impl.ProgressOf(bad, make([]int64, len(bad)), 5))
	}
}
