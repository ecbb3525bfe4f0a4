package tests

import (
	"math"
	"slices"
	"testing"

	"loop.example/g01389/impl"
)

// blocksByHand lets the time go on by one again and again: a train comes to the next block as soon as the train before it has come to its end.
func blocksByHand(runs, heads []int64) []int64 {
	trains, blocks := len(heads), len(runs)
	const never = -1
	ends := repeated[int64](never, trains*blocks)
	// Each train is in a block, or ahead of it, and must still run there.
	at, rest, inside := make([]int, trains), make([]int64, trains), make([]bool, trains)
	open := trains
	for now := int64(0); open > 0; now++ {
		for train := range trains {
			for at[train] < blocks {
				block := at[train]
				if !inside[train] {
					isFree := train == 0 || ends[(train-1)*blocks+block] != never
					if now < heads[train] || !isFree {
						break
					}
					inside[train], rest[train] = true, runs[block]
				}
				if rest[train] > 0 {
					rest[train]--
					break
				}
				ends[train*blocks+block] = now
				at[train], inside[train] = block+1, false
				if at[train] == blocks {
					open--
				}
			}
		}
	}
	return ends
}

func TestBlockTimes(t *testing.T) {
	cases := []struct {
		what              string
		runs, heads, ends []int64
	}{
		{"two trains", []int64{2, 3}, []int64{0, 2}, []int64{2, 5, 4, 8}},
		{"far enough apart", []int64{2, 3}, []int64{0, 3}, []int64{2, 5, 5, 8}},
		{"at once", []int64{2, 3}, []int64{0, 0}, []int64{2, 5, 4, 8}},
		{"the first one later", []int64{2, 3}, []int64{7, 0}, []int64{9, 12, 11, 15}},
		{"one train", []int64{2, 0, 3}, []int64{5}, []int64{7, 7, 10}},
		{"one block", []int64{4}, []int64{0, 1, 100000}, []int64{4, 8, 100004}},
		{"no time", []int64{0, 0}, []int64{0, 0}, []int64{0, 0, 0, 0}},
		{"a long block ahead", []int64{9, 1}, []int64{0, 0, 0}, []int64{9, 10, 18, 19, 27, 28}},
		{"a long block behind", []int64{1, 9}, []int64{0, 0, 0}, []int64{1, 10, 2, 19, 3, 28}},
	}
	for _, c := range cases {
		wantTold(t, c.what, told(impl.BlockTimes(c.runs, c.heads)), c.ends)
	}
	r := drawer(241)
	for range 1000 {
		runs, heads := drawList(r, 1+r.IntN(impl.MaxBlocks), 0, 6), drawList(r, 1+r.IntN(impl.MaxEvents), 0, 40)
		if r.IntN(2) == 0 {
			slices.Sort(heads)
		}
		wantTold(t, "ends", told(impl.BlockTimes(runs, heads)), blocksByHand(runs, heads))
	}
	ends, ok := impl.BlockTimes(repeated[int64](1000, impl.MaxBlocks), repeated[int64](100000, impl.MaxEvents))
	want(t, "the most blocks and trains", ok && len(ends) == 144 && ends[143] == 123000, true)
}

// wrongRuns are lists that are no runs.
func wrongRuns() [][]int64 {
	return [][]int64{nil, {}, {-1}, {1001}, {0, -1}, {1001, 0}, {math.MinInt64}, {0, math.MaxInt64}, make([]int64, impl.MaxBlocks+1)}
}

func TestBlocksFail(t *testing.T) {
	for _, runs := range wrongRuns() {
		wantNotTold(t, "wrong runs", told(impl.BlockTimes(runs, []int64{0})))
		wantNotTold(t, "wrong runs", told(impl.LeastHead(runs, runs)))
		if len(runs) > 0 && len(runs) <= impl.MaxBlocks {
			good := make([]int64, len(runs))
			wantNotTold(t, "wrong runs of the first train", told(impl.LeastHead(runs, good)))
			wantNotTold(t, "wrong runs of the second train", told(impl.LeastHead(good, runs)))
		}
	}
	for _, heads := range [][]int64{nil, {}, {-1}, {100001}, {0, -1}, {100001, 0}, {math.MinInt64}, {0, math.MaxInt64}, make([]int64, impl.MaxEvents+1)} {
		wantNotTold(t, "wrong heads", told(impl.BlockTimes([]int64{1}, heads)))
	}
	wantNotTold(t, "a block too few", told(impl.LeastHead([]int64{2}, []int64{2, 3})))
	wantNotTold(t, "a block too many", told(impl.LeastHead([]int64{2, 3}, []int64{2})))
	wantNotTold(t, "no blocks of the second train", told(impl.LeastHead([]int64{2, 3}, nil)))
}

// waitsByHand reports whether a train that begins later by head waits for the one before it.
func waitsByHand(a, b []int64, head int64) bool {
	var end int64
	for block := range a {
		end += a[block]
		if head < end {
			return true
		}
		head += b[block]
	}
	return false
}

func TestLeastHead(t *testing.T) {
	cases := []struct {
		what string
		a, b []int64
		head int64
	}{
		{"the example", []int64{2, 3}, []int64{2, 3}, 3},
		{"one block", []int64{7}, []int64{1}, 7},
		{"a faster train behind", []int64{2, 3, 4}, []int64{1, 1, 1}, 7},
		{"a slower train behind", []int64{1, 1, 1}, []int64{2, 3, 4}, 1},
		{"no time", []int64{0, 0}, []int64{0, 5}, 0},
		{"no time in the first block", []int64{0, 4}, []int64{9, 1}, 0},
		{"in the middle", []int64{1, 9, 1}, []int64{1, 9, 1}, 9},
		{"the most", repeated[int64](1000, 12), make([]int64, 12), 12000},
		{"equal blocks", repeated[int64](1000, 12), repeated[int64](1000, 12), 1000},
	}
	for _, c := range cases {
		wantTold(t, c.what, told(impl.LeastHead(c.a, c.b)), c.head)
	}
	r := drawer(242)
	for range 1000 {
		blocks := 1 + r.IntN(impl.MaxBlocks)
		a, b := drawList(r, blocks, 0, 9), drawList(r, blocks, 0, 9)
		var head int64
		for waitsByHand(a, b, head) {
			head++
		}
		wantTold(t, "a head", told(impl.LeastHead(a, b)), head)
	}
}

// TestTrainsNeverWait checks that trains that begin LeastHead apart, or later, never wait, and that one of those that begin a bit earlier does.
func TestTrainsNeverWait(t *testing.T) {
	r := drawer(243)
	for range 500 {
		runs := drawList(r, 1+r.IntN(impl.MaxBlocks), 0, 9)
		head, _ := impl.LeastHead(runs, runs)
		heads := []int64{r.Int64N(10)}
		for range r.IntN(impl.MaxEvents) {
			heads = append(heads, heads[len(heads)-1]+head+r.Int64N(3)*r.Int64N(2))
		}
		var free []int64
		for _, begin := range heads {
			for _, run := range runs {
				begin += run
				free = append(free, begin)
			}
		}
		wantTold(t, "trains that never wait", told(impl.BlockTimes(runs, heads)), free)
		if head > 0 {
			ends, _ := impl.BlockTimes(runs, []int64{0, head - 1})
			want(t, "a train that waits", ends[len(ends)-1] > head-1+sumByHand(runs), true)
		}
	}
}

// hoistByHand carries out many moves of a hoist, and reports whether they never overlap, and no part comes to a tank before the one before it has been soaked.
func hoistByHand(soaks, moves []int64, period int64) bool {
	for _, soak := range soaks {
		if soak > period {
			return false
		}
	}
	var long int64
	for i, move := range moves {
		long += move
		if i < len(soaks) {
			long += soaks[i]
		}
	}
	busy := map[int64]bool{}
	// By then, a part that begins moves while the first one is moved for the last time.
	for part := range long/period + 2 {
		now := part * period
		for i, move := range moves {
			for range move {
				if busy[now] {
					return false
				}
				busy[now] = true
				now++
			}
			if i < len(soaks) {
				now += soaks[i]
			}
		}
	}
	return true
}

func TestHoistPeriod(t *testing.T) {
	cases := []struct {
		what         string
		soaks, moves []int64
		most, period int64
	}{
		{"one tank", []int64{2}, []int64{1, 1}, 9, 2},
		{"just as long", []int64{2}, []int64{1, 1}, 2, 2},
		{"a long soak", []int64{1000}, []int64{1, 1}, 1000, 1000},
		{"a soak that ends when a move begins", []int64{1}, []int64{1, 1}, 9, 3},
		{"no soak", []int64{0}, []int64{1, 1}, 9, 2},
		{"no soaks", make([]int64, 12), repeated[int64](100, 13), 1300, 1300},
		{"long moves", []int64{5}, []int64{100, 100}, 10000, 205},
		{"moves begin when others end", []int64{4, 4}, []int64{2, 2, 2}, 100, 8},
	}
	for _, c := range cases {
		wantTold(t, c.what, told(impl.HoistPeriod(c.soaks, c.moves, c.most)), c.period)
		want(t, c.what, hoistByHand(c.soaks, c.moves, c.period), true)
		if c.period > 1 {
			wantNotTold(t, "less than: "+c.what, told(impl.HoistPeriod(c.soaks, c.moves, c.period-1)))
		}
	}
	r := drawer(244)
	for range 800 {
		tanks := 1 + r.IntN(5)
		soaks, moves := drawList(r, tanks, 0, 12), drawList(r, tanks+1, 1, 4)
		period := int64(1)
		for !hoistByHand(soaks, moves, period) {
			period++
		}
		wantTold(t, "the least period", told(impl.HoistPeriod(soaks, moves, period+r.Int64N(50))), period)
		if period > 1 {
			wantNotTold(t, "a bit less", told(impl.HoistPeriod(soaks, moves, period-1)))
		}
	}
	period, ok := impl.HoistPeriod(repeated[int64](1000, impl.MaxBlocks), repeated[int64](100, impl.MaxBlocks+1), 10000)
	want(t, "the most tanks", ok && hoistByHand(repeated[int64](1000, 12), repeated[int64](100, 13), period), true)
}

func TestHoistFails(t *testing.T) {
	for _, soaks := range [][]int64{nil, {-1}, {1001}, {0, -1}, {math.MinInt64}, {math.MaxInt64, 0}, make([]int64, impl.MaxBlocks+1)} {
		wantNotTold(t, "wrong soaks", told(impl.HoistPeriod(soaks, repeated[int64](1, len(soaks)+1), 10000)))
	}
	for _, moves := range [][]int64{nil, {1}, {1, 1, 1}, {0, 1}, {1, 0}, {1, -1}, {101, 1}, {1, 101}, {math.MinInt64, 1}, {1, math.MaxInt64}} {
		wantNotTold(t, "wrong moves", told(impl.HoistPeriod([]int64{2}, moves, 10000)))
	}
	for _, most := range []int64{0, -1, 10001, math.MinInt64, math.MaxInt64} {
		wantNotTold(t, "a wrong limit", told(impl.HoistPeriod([]int64{2}, []int64{1, 1}, most)))
	}
}
