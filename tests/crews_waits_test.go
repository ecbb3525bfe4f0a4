package tests

import (
	"fmt"
	"math"
	"math/rand/v2"
	"testing"

	"loop.example/g01389/impl"
)

// maxServers is how many servers there are at most.
const maxServers = 96

// drawLoad returns a load: near a number of servers, of any size, or somewhere between.
func drawLoad(r *rand.Rand) float32 {
	switch r.IntN(4) {
	case 0:
		return min(64, float32(math.Abs(float64(drawNumber(r))))+number(leastBits))
	case 1:
		near := float32(1 + r.IntN(64))
		return min(64, number(bitsOf(near)-2+r.Uint32N(5)))
	case 2:
		return float32(1+r.IntN(64)) / float32(1+r.IntN(64))
	}
	return 64 * (1 - r.Float32())
}

// wrongLoads are numbers that are no loads.
func wrongLoads() []float32 {
	return append(notFinite(), 0, number(negativeZero), number(0x80000001), -1, number(bitsOf(64)+1), 65, number(mostBits), number(0xff7fffff), number(0x7f800001))
}

// wrongServers are numbers of servers that there are not.
func wrongServers() []int64 {
	return []int64{0, -1, maxServers + 1, math.MinInt64, math.MaxInt64, 1 << 32, 1<<32 + 2}
}

// blockByLoad returns what BlockChance does, of a load and servers that are right.
func blockByLoad(load rounded, servers int64) rounded {
	b := round(1)
	for k := int64(1); k <= servers; k++ {
		b = load.mul(b).div(round(float64(k)).add(load.mul(b)))
	}
	return b
}

// waitByLoad returns what WaitChance does, of a load that is less than servers.
func waitByLoad(load rounded, servers int64) rounded {
	b := blockByLoad(load, servers)
	busy := load.div(rounded(servers))
	return b.div(round(1).sub(busy.mul(round(1).sub(b))))
}

func TestBlockChance(t *testing.T) {
	for _, c := range []struct {
		load    float32
		servers int64
		chance  float32
	}{{1, 1, 0.5}, {1, 2, 0.2}, {2, 1, 2.0 / 3}, {2, 2, 0.4}, {64, 1, 64.0 / 65}, {3, 1, 0.75}, {number(leastBits), 1, number(leastBits)}, {number(leastBits), 2, 0}, {number(leastBits), maxServers, 0}} {
		wantTold(t, fmt.Sprint(c.load, c.servers), told(impl.BlockChance(c.load, c.servers)), c.chance)
	}
	r := drawer(340)
	for range 5000 {
		load, servers := drawLoad(r), 1+r.Int64N(maxServers)
		got, ok := impl.BlockChance(load, servers)
		wantNumber(t, fmt.Sprint(load, servers), got, ok, blockByLoad(rounded(load), servers))
		want(t, "a chance", got >= 0 && got <= 1, true)
	}
}

func TestWaitChance(t *testing.T) {
	for _, c := range []struct {
		load    float32
		servers int64
		chance  float32
	}{{0.5, 1, 0.5}, {0.25, 1, 0.25}, {1, 2, number(0x3eaaaaaa)}, {number(leastBits), 1, number(leastBits)}, {number(leastBits), maxServers, 0}} {
		wantTold(t, fmt.Sprint(c.load, c.servers), told(impl.WaitChance(c.load, c.servers)), c.chance)
	}
	r := drawer(341)
	counts := map[bool]int{}
	for range 20000 {
		load, servers := drawLoad(r), 1+r.Int64N(maxServers)
		// Often, the load is just less than servers, as many, or just more.
		if r.IntN(2) == 0 {
			servers = max(1, int64(load)+r.Int64N(3)-1)
		}
		wait, ok := impl.WaitChance(load, servers)
		mean, also := impl.MeanWait(load, servers)
		counts[ok]++
		if float64(load) >= float64(servers) {
			wantFailure(t, "too great a load", wait, ok)
			wantFailure(t, "too great a load for a mean", mean, also)
			continue
		}
		chance := waitByLoad(rounded(load), servers)
		wantNumber(t, fmt.Sprint(load, servers), wait, ok, chance)
		wantNumber(t, fmt.Sprint("mean ", load, servers), mean, also, chance.div(rounded(servers).sub(rounded(load))))
	}
	want(t, "with and without chances", counts[true] > 1000 && counts[false] > 1000, true)
}

// TestWaitsAtLoads checks loads that are as great as servers, and just less.
func TestWaitsAtLoads(t *testing.T) {
	for servers := int64(1); servers <= 64; servers++ {
		wait, ok := impl.WaitChance(float32(servers), servers)
		wantFailure(t, "as much as servers", wait, ok)
		mean, ok := impl.MeanWait(float32(servers), servers)
		wantFailure(t, "as much as servers", mean, ok)
		less := number(bitsOf(float32(servers)) - 1)
		wait, ok = impl.WaitChance(less, servers)
		wantNumber(t, "just less", wait, ok, waitByLoad(rounded(less), servers))
		mean, ok = impl.MeanWait(less, servers)
		wantNumber(t, "just less", mean, ok, waitByLoad(rounded(less), servers).div(rounded(servers).sub(rounded(less))))
	}
	wantTold(t, "the mean of the example", told(impl.MeanWait(0.5, 1)), 1)
	wantTold(t, "a mean of two servers", told(impl.MeanWait(1, 2)), number(0x3eaaaaaa))
	for servers := int64(65); servers <= maxServers; servers++ {
		wait, ok := impl.WaitChance(64, servers)
		wantNumber(t, "the greatest load", wait, ok, waitByLoad(64, servers))
	}
}

// staffByHand returns the least number of servers, or 0 if there is none.
func staffByHand(load, chance float32) int64 {
	for servers := int64(1); servers <= maxServers; servers++ {
		if float64(servers) > float64(load) && waitByLoad(rounded(load), servers) <= rounded(chance) {
			return servers
		}
	}
	return 0
}

func TestStaffFor(t *testing.T) {
	for _, c := range []struct {
		load, chance float32
		servers      int64
	}{
		{0.5, 0.5, 1}, {0.5, number(bitsOf(0.5) - 1), 2}, {0.5, 1, 1}, {1, 1, 2}, {1, 0.34, 2}, {1, 0.33, 3}, {number(leastBits), 0, 2}, {number(leastBits), number(negativeZero), 2}, {number(leastBits), number(leastBits), 1},
		{64, 1, 65}, {63, 1, 64}, {62.5, 1, 63}, {0.25, 0.25, 1},
	} {
		wantTold(t, fmt.Sprint(c.load, c.chance), told(impl.StaffFor(c.load, c.chance)), c.servers)
	}
	r := drawer(342)
	counts := map[bool]int{}
	for range 3000 {
		load, chance := drawLoad(r), r.Float32()
		switch r.IntN(4) {
		case 0:
			chance = float32(math.Ldexp(float64(chance), -r.IntN(60)))
		case 1:
			// The chance is reached exactly.
			servers := min(maxServers, int64(load)+1+r.Int64N(40))
			chance = float32(waitByLoad(rounded(load), servers))
		}
		servers := staffByHand(load, chance)
		counts[servers > 0]++
		if servers == 0 {
			wantNotTold(t, "too few servers", told(impl.StaffFor(load, chance)))
			continue
		}
		wantTold(t, fmt.Sprint(load, chance), told(impl.StaffFor(load, chance)), servers)
	}
	want(t, "with and without enough servers", counts[true] > 1000 && counts[false] > 10, true)
	// All servers are just enough.
	least := float32(waitByLoad(64, maxServers))
	wantTold(t, "all servers", told(impl.StaffFor(64, least)), maxServers)
	wantNotTold(t, "one more would be needed", told(impl.StaffFor(64, number(bitsOf(least)-1))))
	wantNotTold(t, "always some wait", told(impl.StaffFor(64, 0)))
}

func TestServersFail(t *testing.T) {
	for _, load := range wrongLoads() {
		for _, servers := range []int64{1, 2, maxServers} {
			wantNotTold(t, "a wrong load: BlockChance", told(impl.BlockChance(load, servers)))
			wantNotTold(t, "a wrong load: WaitChance", told(impl.WaitChance(load, servers)))
			wantNotTold(t, "a wrong load: MeanWait", told(impl.MeanWait(load, servers)))
		}
		wantNotTold(t, "a wrong load: StaffFor", told(impl.StaffFor(load, 1)))
		wantNotTold(t, "a wrong load: StaffFor", told(impl.StaffFor(load, 0)))
	}
	for _, servers := range wrongServers() {
		for _, load := range []float32{number(leastBits), 0.5, 64} {
			wantNotTold(t, "wrong servers: BlockChance", told(impl.BlockChance(load, servers)))
			wantNotTold(t, "wrong servers: WaitChance", told(impl.WaitChance(load, servers)))
			wantNotTold(t, "wrong servers: MeanWait", told(impl.MeanWait(load, servers)))
		}
	}
	for _, chance := range append(notFinite(), number(0x80000001), -1, number(oneBits+1), 2) {
		wantNotTold(t, "a wrong chance", told(impl.StaffFor(0.5, chance)))
		wantNotTold(t, "a wrong chance", told(impl.StaffFor(64, chance)))
	}
}
