package tests

import (
	"math"
	"math/cmplx"
	"math/rand/v2"
	"slices"
	"testing"

	"loop.example/g01389/impl"
)

// wantPhases fails if phases are others, or have other signs.
func wantPhases(t *testing.T, what string, got answer[[]complex64], wanted []complex64) {
	t.Helper()
	same := func(a, b complex64) bool {
		return bitsOf(real(a)) == bitsOf(real(b)) && bitsOf(imag(a)) == bitsOf(imag(b))
	}
	if !got.ok || !slices.EqualFunc(got.result, wanted, same) {
		t.Errorf("%s: got %v, want %v", what, got, wanted)
	}
}

func TestPhasesOf(t *testing.T) {
	wantPhases(t, "quarters", told(impl.PhasesOf([]int64{0, 1, 2, 3}, 4)), []complex64{1, impl.PhasorOf(0.25), impl.PhasorOf(0.5), impl.PhasorOf(0.75)})
	wantTold(t, "quarters", told(impl.PhasesOf([]int64{0, 1, 2, 3}, 4)), []complex64{1, 1i, -1, -1i})
	wantPhases(t, "the period 1", told(impl.PhasesOf(make([]int64, 12), 1)), repeated[complex64](1, 12))
	for period := int64(1); period <= impl.MaxPeriod; period++ {
		for time := range period {
			// The quotient is one of 64-bit numbers: that of 32-bit ones gives others.
			phase := impl.PhasorOf(float64(time) / float64(period))
			wantPhases(t, "a phase", told(impl.PhasesOf([]int64{0, time}, period)), []complex64{1, phase})
			near := cmplx.Rect(1, 2*math.Pi*float64(time)/float64(period))
			want(t, "it is near the point of the circle", cmplx.Abs(complex128(phase)-near) < 1e-6, true)
		}
	}
	for _, times := range wrongTimes() {
		wantNotTold(t, "wrong times", told(impl.PhasesOf(times, 10)))
		wantNotTold(t, "wrong times", told(impl.TogetherOf(times, 10)))
	}
	for _, period := range []int64{0, -1, impl.MaxPeriod + 1, math.MinInt64, math.MaxInt64} {
		wantNotTold(t, "a wrong period", told(impl.PhasesOf([]int64{0}, period)))
		wantNotTold(t, "a wrong period", told(impl.TogetherOf([]int64{0}, period)))
	}
}

// wrongTimes are lists that are no times of the period 10.
func wrongTimes() [][]int64 {
	return [][]int64{nil, {}, {10}, {-1}, {0, 10}, {0, 9, -1}, {math.MinInt64}, {0, math.MaxInt64}, make([]int64, impl.MaxEvents+1)}
}

func TestTogetherOf(t *testing.T) {
	cases := []struct {
		times  []int64
		period int64
		bits   uint32
	}{
		{[]int64{0}, 60, oneBits}, {[]int64{0, 0}, 4, oneBits}, {repeated[int64](0, 12), 1, oneBits}, {[]int64{1, 1, 1}, 4, oneBits},
		{[]int64{0, 1}, 4, 0x3f3504f3}, {[]int64{0, 2}, 4, 0}, {[]int64{0, 1, 2, 3}, 4, 0}, {[]int64{0, 0, 2}, 4, 0x3eaaaaab},
	}
	for _, c := range cases {
		got, ok := impl.TogetherOf(c.times, c.period)
		want(t, "together", ok, true)
		wantBits(t, "together", got, c.bits)
	}
	r := drawer(231)
	for range 1000 {
		period := 1 + r.Int64N(impl.MaxPeriod)
		times := drawList(r, 1+r.IntN(impl.MaxEvents), 0, period-1)
		var sum complex64
		for _, time := range times {
			phase := impl.PhasorOf(float64(time) / float64(period))
			sum = complex(real(sum)+real(phase), imag(sum)+imag(phase))
		}
		long := round(math.Sqrt(float64(real(sum))*float64(real(sum)) + float64(imag(sum))*float64(imag(sum))))
		got, ok := impl.TogetherOf(times, period)
		wantNumber(t, "together", got, ok, long.div(rounded(len(times))))
	}
}

// drawDelays returns rules of the period MaxPeriod, in all of which From is less than To.
func drawDelays(r *rand.Rand, events int64, count int) []impl.Rule {
	var rules []impl.Rule
	for _, rule := range drawRules(r, events, count, impl.MaxPeriod) {
		rule.From, rule.To = min(rule.From, rule.To), max(rule.From, rule.To)
		rule.Most = min(rule.Most, rule.Least+r.Int64N(6))
		rules = append(rules, rule)
	}
	return rules
}

// delayByHand returns how late an event is, by those of From of all rules to it.
func delayByHand(rules []impl.Rule, late []int64, event int64) int64 {
	delay := late[event]
	for _, rule := range rules {
		if rule.To == event {
			delay = max(delay, delayByHand(rules, late, rule.From)-(rule.Most-rule.Least))
		}
	}
	return delay
}

func TestSpreadDelays(t *testing.T) {
	cases := []struct {
		what  string
		rules []impl.Rule
		late  []int64
		delay []int64
	}{
		{"one rule", []impl.Rule{{From: 0, To: 1, Least: 2, Most: 3}}, []int64{5, 0}, []int64{5, 4}},
		{"enough time", []impl.Rule{{From: 0, To: 1, Least: 2, Most: 7}}, []int64{5, 0}, []int64{5, 0}},
		{"more than enough time", []impl.Rule{{From: 0, To: 1, Least: 2, Most: 9}}, []int64{5, 0}, []int64{5, 0}},
		{"later on its own", []impl.Rule{{From: 0, To: 1, Least: 2, Most: 3}}, []int64{5, 9}, []int64{5, 9}},
		{"no rules", nil, []int64{5, 0, 1000}, []int64{5, 0, 1000}},
		{"two rules", []impl.Rule{{From: 0, To: 2, Least: 2, Most: 3}, {From: 1, To: 2, Least: 2, Most: 4}}, []int64{5, 7, 0}, []int64{5, 7, 5}},
		{"the last rule first", []impl.Rule{{From: 1, To: 2}, {From: 0, To: 1, Most: 1}}, []int64{5, 0, 0}, []int64{5, 4, 4}},
		{"the most", []impl.Rule{{From: 0, To: 1, Least: 59, Most: 59}}, []int64{1000, 0}, []int64{1000, 1000}},
		{"much time", []impl.Rule{{From: 0, To: 1, Least: 59, Most: 118}}, []int64{1000, 0}, []int64{1000, 941}},
	}
	for _, c := range cases {
		wantTold(t, c.what, told(impl.SpreadDelays(int64(len(c.late)), c.rules, c.late)), c.delay)
	}
	r := drawer(232)
	for range 1000 {
		events := 1 + r.Int64N(impl.MaxEvents)
		rules, late := drawDelays(r, events, r.IntN(21)), drawList(r, int(events), 0, 20)
		var delays []int64
		for event := range events {
			delays = append(delays, delayByHand(rules, late, event))
		}
		wantTold(t, "delays", told(impl.SpreadDelays(events, rules, late)), delays)
	}
	// Each rule comes ahead of that by which it is told.
	var chain []impl.Rule
	for event := range int64(impl.MaxEvents - 1) {
		chain = append([]impl.Rule{{From: event, To: event + 1, Most: 1}}, chain...)
	}
	late, delays := make([]int64, impl.MaxEvents), make([]int64, impl.MaxEvents)
	late[0] = 1000
	for event := range delays {
		delays[event] = 1000 - int64(event)
	}
	wantTold(t, "a long chain", told(impl.SpreadDelays(impl.MaxEvents, chain, late)), delays)
}

func TestSpreadDelaysFails(t *testing.T) {
	rule := impl.Rule{From: 0, To: 1, Least: 2, Most: 3}
	for _, late := range [][]int64{nil, {0}, {0, 0, 0}, {-1, 0}, {0, 1001}, {math.MinInt64, 0}, {0, math.MaxInt64}} {
		wantNotTold(t, "wrong delays", told(impl.SpreadDelays(2, []impl.Rule{rule}, late)))
	}
	wantNotTold(t, "a rule back", told(impl.SpreadDelays(2, []impl.Rule{{From: 1, To: 0, Least: 2, Most: 3}}, []int64{5, 0})))
	wantNotTold(t, "a rule back among others", told(impl.SpreadDelays(3, []impl.Rule{rule, {From: 2, To: 1, Least: 2, Most: 3}, rule}, []int64{5, 0, 0})))
	for _, wrong := range []impl.Rule{{From: 0, To: 1, Least: 60, Most: 60}, {From: 0, To: 1, Least: 0, Most: 60}, {From: 0, To: 1, Least: 2, Most: 1}, {From: 0, To: 0}, {From: 0, To: 2}, {From: -1, To: 0}, {From: 0, To: 1, Least: -1}} {
		wantNotTold(t, "a wrong rule", told(impl.SpreadDelays(2, []impl.Rule{wrong}, []int64{5, 0})))
	}
	wantNotTold(t, "too many rules", told(impl.SpreadDelays(2, repeated(rule, impl.MaxRules+1), []int64{5, 0})))
	wantTold(t, "as many rules as there can be", told(impl.SpreadDelays(2, repeated(rule, impl.MaxRules), []int64{5, 0})), []int64{5, 4})
	for _, events := range []int64{0, -1, impl.MaxEvents + 1, math.MinInt64, math.MaxInt64} {
		wantNotTold(t, "wrong events", told(impl.SpreadDelays(events, nil, nil)))
		wantNotTold(t, "wrong events", told(impl.SpreadDelays(events, nil, make([]int64, impl.MaxEvents+1))))
	}
}
