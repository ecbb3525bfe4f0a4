package tests

import (
	"fmt"
	"math"
	"slices"
	"strings"
	"testing"

	"loop.example/g01389/impl"
)

func TestCoverOf(t *testing.T) {
	cases := []struct {
		shifts        []string
		counts, cover []int64
	}{
		{[]string{"ww.", "..w"}, []int64{2, 1}, []int64{2, 2, 1}}, {[]string{"."}, []int64{1000}, []int64{0}}, {[]string{"w"}, []int64{0}, []int64{0}},
		{[]string{"w.", "w.", ".w"}, []int64{5, 6, 7}, []int64{11, 7}}, {repeated("w.", 64), repeated[int64](1000, 64), []int64{64000, 0}},
		{[]string{strings.Repeat("w", 24), strings.Repeat(".w", 12)}, []int64{1, 1}, slices.Repeat([]int64{1, 2}, 12)},
	}
	for _, c := range cases {
		wantTold(t, fmt.Sprint(c.shifts), told(impl.CoverOf(c.shifts, c.counts)), c.cover)
	}
	r := drawer(320)
	for range 300 {
		slots, n := 1+r.IntN(impl.MaxSlots), 1+r.IntN(64)
		var shifts []string
		counts, cover := drawList(r, n, 0, 1000), make([]int64, slots)
		for i := range n {
			var shift strings.Builder
			for slot := range slots {
				works := r.Int64N(2)
				shift.WriteByte(".w"[works])
				cover[slot] += works * counts[i]
			}
			shifts = append(shifts, shift.String())
		}
		wantTold(t, "drawn shifts", told(impl.CoverOf(shifts, counts)), cover)
	}
}

func TestCoverOfFails(t *testing.T) {
	wantNotTold(t, "none", told(impl.CoverOf(nil, nil)))
	wantNotTold(t, "none", told(impl.CoverOf([]string{}, []int64{})))
	wantNotTold(t, "too many", told(impl.CoverOf(repeated("w", 65), make([]int64, 65))))
	for _, shifts := range [][]string{
		{""}, {"", ""}, {"w", ""}, {"", "w"}, {"w", "ww"}, {"ww", "w"}, {"w.", "w", "w."}, {"x"}, {"W"}, {"w ", "w."}, {"w.", "w\xff"}, {"w.", "é"}, {"é"}, {"\x00"}, {"ｗ"},
		{strings.Repeat("w", 25)}, {strings.Repeat(".", 25), strings.Repeat(".", 25)}, {strings.Repeat("w", 24), strings.Repeat("w", 25)}, {strings.Repeat(".", 300000)},
	} {
		wantNotTold(t, fmt.Sprintf("wrong texts %.30q", shifts), told(impl.CoverOf(shifts, make([]int64, len(shifts)))))
	}
	for _, counts := range [][]int64{nil, {}, {1}, {1, 1, 1}} {
		wantNotTold(t, "not as many", told(impl.CoverOf([]string{"w", "."}, counts)))
	}
	for _, count := range []int64{-1, 1001, math.MinInt64, math.MaxInt64} {
		wantNotTold(t, "a wrong count", told(impl.CoverOf([]string{"w", "."}, []int64{count, 0})))
		wantNotTold(t, "a wrong count", told(impl.CoverOf([]string{"w", "."}, []int64{0, count})))
	}
}

// A covering is what GreedyCover returns.
type covering struct {
	shifts []string
	counts []int64
	ok     bool
}

// coveringOf takes what GreedyCover returns.
func coveringOf(shifts []string, counts []int64, ok bool) covering {
	return covering{shifts, counts, ok}
}

// wantCovering fails if GreedyCover has failed, or has returned something else.
func wantCovering(t *testing.T, what string, got covering, shifts []string, counts []int64) {
	t.Helper()
	if !got.ok || !slices.Equal(got.shifts, shifts) || !slices.Equal(got.counts, counts) {
		t.Errorf("%s: got %v, want %v %v", what, got, shifts, counts)
	}
}

// wantNoCovering fails if GreedyCover has not failed.
func wantNoCovering(t *testing.T, what string, got covering) {
	t.Helper()
	wantListFailure(t, what, got.shifts, got.ok)
	wantListFailure(t, what, got.counts, got.ok)
}

// coverByHand covers needs with some shifts, one of which is taken after another one; false if some needs can't be covered.
func coverByHand(shifts []string, needs []int64) (taken []string, counts []int64, ok bool) {
	times := map[string]int64{}
	for {
		lacks := func(slot int) bool {
			var work int64
			for shift, n := range times {
				work += n * int64(strings.Count(shift[slot:slot+1], "w"))
			}
			return work < needs[slot]
		}
		var best string
		most, open := 0, false
		for slot := range needs {
			open = open || lacks(slot)
		}
		if !open {
			break
		}
		for _, shift := range slices.Backward(shifts) {
			helps := 0
			for slot := range needs {
				if shift[slot] == 'w' && lacks(slot) {
					helps++
				}
			}
			if helps > 0 && helps >= most {
				best, most = shift, helps
			}
		}
		if most == 0 {
			return nil, nil, false
		}
		times[best]++
	}
	for _, shift := range shifts {
		if times[shift] > 0 {
			taken, counts = append(taken, shift), append(counts, times[shift])
		}
	}
	return taken, counts, true
}

func TestGreedyCover(t *testing.T) {
	rule := exampleRule()
	cases := []struct {
		needs  []int64
		shifts []string
		counts []int64
	}{
		{[]int64{1, 0, 2}, []string{"..w", "w.w"}, []int64{1, 1}}, {[]int64{0, 0, 0}, nil, nil}, {[]int64{0, 0, 100}, []string{"..w"}, []int64{100}},
		// Of several, the first one is taken: .ww before w.w and ww., and w.. before w.w and ww. at last.
		{[]int64{1, 1, 1}, []string{".ww", "w.."}, []int64{1, 1}}, {[]int64{2, 1, 0}, []string{"w..", "ww."}, []int64{1, 1}},
		{[]int64{100, 100, 100}, []string{".ww", "w.."}, []int64{100, 100}}, {[]int64{0, 3, 0}, []string{".w."}, []int64{3}},
	}
	for _, c := range cases {
		wantCovering(t, fmt.Sprint(c.needs), coveringOf(impl.GreedyCover(rule, c.needs)), c.shifts, c.counts)
	}
	r := drawer(321)
	counts := map[bool]int{}
	for range 300 {
		rule := drawShiftRule(r, 1+r.Int64N(9))
		needs := drawList(r, int(rule.Slots), 0, 1+r.Int64N(6))
		all := shiftsByHand(rule)
		shifts, times, ok := coverByHand(all[:min(64, len(all))], needs)
		counts[ok]++
		got := coveringOf(impl.GreedyCover(rule, needs))
		if !ok {
			wantNoCovering(t, "needs that can't be covered", got)
			continue
		}
		wantCovering(t, fmt.Sprint(rule, needs), got, shifts, times)
		for _, count := range got.counts {
			want(t, "a count", count >= 1, true)
		}
		if len(shifts) > 0 {
			cover, ok := impl.CoverOf(got.shifts, got.counts)
			want(t, "the cover", ok, true)
			for slot, need := range needs {
				want(t, "a slot is covered", cover[slot] >= need, true)
			}
		}
	}
	want(t, "with and without covers", counts[true] > 50 && counts[false] > 50, true)
}

// TestGreedyCoverTakesFirstShifts checks that only the first 64 shifts are taken.
func TestGreedyCoverTakesFirstShifts(t *testing.T) {
	rule := impl.ShiftRule{Slots: 7, Most: 7, Row: 7, Pause: 1}
	needs := make([]int64, 7)
	needs[1] = 2
	wantCovering(t, "the slots of the first ones", coveringOf(impl.GreedyCover(rule, needs)), []string{".w....."}, []int64{2})
	needs[0] = 1
	wantNoCovering(t, "the slot of the others", coveringOf(impl.GreedyCover(rule, needs)))
	// With one slot less, all 64 shifts are among them.
	rule.Slots, rule.Most, rule.Row = 6, 6, 6
	wantCovering(t, "all slots", coveringOf(impl.GreedyCover(rule, repeated[int64](100, 6))), []string{"wwwwww"}, []int64{100})
	whole := impl.ShiftRule{Slots: 24, Least: 1, Most: 24, Row: 24, Pause: 24}
	last := make([]int64, 24)
	last[23], last[22] = 100, 99
	wantCovering(t, "the last slots", coveringOf(impl.GreedyCover(whole, last)), []string{strings.Repeat(".", 23) + "w", strings.Repeat(".", 22) + "ww"}, []int64{1, 99})
}

func TestGreedyCoverFails(t *testing.T) {
	for _, rule := range badShiftRules() {
		for _, needs := range [][]int64{nil, {0, 0, 0}, {1, 0, 0}} {
			wantNoCovering(t, "a wrong rule", coveringOf(impl.GreedyCover(rule, needs)))
		}
	}
	wrong := [][]int64{nil, {}, {0}, {0, 0}, {0, 0, 0, 0}, make([]int64, 24), make([]int64, 25), make([]int64, 300000)}
	for _, n := range []int64{-1, 101, math.MinInt64, math.MaxInt64} {
		wrong = append(wrong, []int64{n, 0, 0}, []int64{0, 0, n})
	}
	for _, needs := range wrong {
		wantNoCovering(t, fmt.Sprint("wrong needs ", needs[:min(9, len(needs))]), coveringOf(impl.GreedyCover(exampleRule(), needs)))
	}
	none := impl.ShiftRule{Slots: 3, Least: 3, Most: 3, Row: 1, Pause: 1}
	wantNoCovering(t, "no shifts", coveringOf(impl.GreedyCover(none, []int64{0, 1, 0})))
	wantCovering(t, "no shifts, and no needs", coveringOf(impl.GreedyCover(none, []int64{0, 0, 0})), nil, nil)
	idle := impl.ShiftRule{Slots: 3, Row: 1, Pause: 1}
	wantNoCovering(t, "a shift without work", coveringOf(impl.GreedyCover(idle, []int64{0, 0, 1})))
	wantCovering(t, "a shift without work, and no needs", coveringOf(impl.GreedyCover(idle, []int64{0, 0, 0})), nil, nil)
	// Without room for a pause, the middle is never worked.
	narrow := impl.ShiftRule{Slots: 3, Least: 2, Most: 2, Row: 1, Pause: 1}
	wantCovering(t, "both ends", coveringOf(impl.GreedyCover(narrow, []int64{2, 0, 1})), []string{"w.w"}, []int64{2})
	wantNoCovering(t, "the middle", coveringOf(impl.GreedyCover(narrow, []int64{2, 1, 1})))
}
