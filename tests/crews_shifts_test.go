package tests

import (
	"fmt"
	"math"
	"slices"
	"strings"
	"testing"

	"loop.example/g01389/impl"
)

func TestValidRule(t *testing.T) {
	for _, rule := range []impl.ShiftRule{
		exampleRule(), {Slots: 1, Row: 1, Pause: 1}, {Slots: 1, Least: 1, Most: 1, Row: 1, Pause: 1}, {Slots: 24, Most: 24, Row: 24, Pause: 24},
		{Slots: 24, Least: 24, Most: 24, Row: 1, Pause: 1}, {Slots: 5, Least: 2, Most: 2, Row: 5, Pause: 5}, {Slots: 5, Row: 1, Pause: 5}, {Slots: 5, Most: 1, Row: 5, Pause: 1},
	} {
		want(t, fmt.Sprint("a rule ", rule), impl.ValidRule(rule), true)
	}
	for _, rule := range badShiftRules() {
		want(t, fmt.Sprint("no rule ", rule), impl.ValidRule(rule), false)
	}
}

func TestSameRule(t *testing.T) {
	one := impl.ShiftRule{Slots: 1, Least: 2, Most: 3, Row: 4, Pause: 5}
	for _, rule := range append(badShiftRules(), one, exampleRule()) {
		again := rule
		want(t, "the same rule", impl.SameRule(rule, again), true)
		want(t, "another rule", impl.SameRule(rule, impl.ShiftRule{Slots: 77}) || impl.SameRule(impl.ShiftRule{Slots: 77}, rule), false)
	}
	for _, other := range []impl.ShiftRule{
		{Slots: 9, Least: 2, Most: 3, Row: 4, Pause: 5}, {Slots: 1, Least: -2, Most: 3, Row: 4, Pause: 5}, {Slots: 1, Least: 2, Most: 0, Row: 4, Pause: 5},
		{Slots: 1, Least: 2, Most: 3, Row: 5, Pause: 5}, {Slots: 1, Least: 2, Most: 3, Row: 4, Pause: 4},
	} {
		want(t, "another number", impl.SameRule(one, other) || impl.SameRule(other, one), false)
	}
}

// isShiftByHand reports whether a text is a shift, by its rows and its pauses.
func isShiftByHand(rule impl.ShiftRule, shift string) bool {
	worked := int64(strings.Count(shift, "w"))
	if int64(len(shift)) != rule.Slots || worked+int64(strings.Count(shift, ".")) != rule.Slots || worked < rule.Least || worked > rule.Most {
		return false
	}
	for row := range strings.SplitSeq(shift, ".") {
		if int64(len(row)) > rule.Row {
			return false
		}
	}
	for pause := range strings.SplitSeq(strings.Trim(shift, "."), "w") {
		if pause != "" && int64(len(pause)) < rule.Pause {
			return false
		}
	}
	return true
}

// slotTexts returns all texts of letters of shifts with a length, in their order.
func slotTexts(slots int64) []string {
	texts := []string{""}
	for range slots {
		var longer []string
		for _, text := range texts {
			longer = append(longer, text+".", text+"w")
		}
		texts = longer
	}
	return texts
}

// shiftsByHand returns all shifts, after a look at all texts.
func shiftsByHand(rule impl.ShiftRule) []string {
	return slices.DeleteFunc(slotTexts(rule.Slots), func(text string) bool { return !isShiftByHand(rule, text) })
}

// countByHand counts shifts of which some slots are told, and some worked: row by row, each one behind a pause.
func countByHand(rule impl.ShiftRule, known map[[2]int64]int64, slot, worked int64) int64 {
	if count, ok := known[[2]int64{slot, worked}]; ok {
		return count
	}
	var count int64
	if rule.Least <= worked && worked <= rule.Most {
		count++
	}
	from := slot
	if worked > 0 {
		from += rule.Pause
	}
	for ; from < rule.Slots; from++ {
		for row := int64(1); row <= rule.Row && from+row <= rule.Slots; row++ {
			count += countByHand(rule, known, from+row, worked+row)
		}
	}
	known[[2]int64{slot, worked}] = count
	return count
}

func TestIsShift(t *testing.T) {
	cases := []struct {
		rule   impl.ShiftRule
		yes    string // texts with blanks between them
		no     string
		others []string
	}{
		{exampleRule(), "..w .w. .ww w.. w.w ww.", "... www", []string{"", "w", "ww", "w..w", "W..", "w. ", "wx.", "w.\n", "w\xff.", "é.", "w.é", "ｗ.", "w..\x00"}},
		// Pauses and rows are just long enough, or not; what is before the first row and behind the last one is no pause.
		{impl.ShiftRule{Slots: 6, Least: 1, Most: 5, Row: 2, Pause: 2}, "w..... .....w ww..ww w...ww .w..w. w..w.. ..ww.. .....w w....w", "...... www... w.w... ww.w.. w..w.w ww.ww. .www.. ..w.ww ...www", nil},
		{impl.ShiftRule{Slots: 5, Least: 0, Most: 5, Row: 5, Pause: 5}, "..... w.... ....w wwwww .www. ww...", "w...w w.w.. www.w", nil},
		{impl.ShiftRule{Slots: 5, Least: 2, Most: 3, Row: 1, Pause: 1}, "w.w.w w.w.. ..w.w w...w", "w.... ww... .ww.. w.ww. ..... wwwww", nil},
		{impl.ShiftRule{Slots: 4, Least: 4, Most: 4, Row: 3, Pause: 1}, "", ".... wwww www. w..w", nil},
		{impl.ShiftRule{Slots: 4, Least: 0, Most: 0, Row: 3, Pause: 1}, "....", "w... ...w wwww .ww.", nil},
		{impl.ShiftRule{Slots: 1, Least: 0, Most: 1, Row: 1, Pause: 1}, ". w", "", []string{"", "..", "w.", ".w", "ww", "x"}},
	}
	for _, c := range cases {
		for shift := range strings.FieldsSeq(c.yes) {
			wantTold(t, "a shift "+shift, told(impl.IsShift(c.rule, shift)), true)
		}
		for _, shift := range append(strings.Fields(c.no), c.others...) {
			wantTold(t, "no shift "+shift, told(impl.IsShift(c.rule, shift)), false)
		}
	}
	whole := impl.ShiftRule{Slots: impl.MaxSlots, Most: impl.MaxSlots, Row: impl.MaxSlots, Pause: impl.MaxSlots}
	for _, long := range []int{25, 26, 300000} {
		wantTold(t, "a long text", told(impl.IsShift(whole, strings.Repeat("w", long))), false)
		wantTold(t, "a long text", told(impl.IsShift(whole, strings.Repeat(".", long))), false)
	}
	wantTold(t, "as long as can be", told(impl.IsShift(whole, strings.Repeat("w", 24))), true)
	r := drawer(310)
	for range 60 {
		rule := drawShiftRule(r, 1+r.Int64N(8))
		for _, text := range append(slotTexts(rule.Slots), append(slotTexts(rule.Slots-1), slotTexts(rule.Slots+1)...)...) {
			wantTold(t, fmt.Sprint(rule, " ", text), told(impl.IsShift(rule, text)), isShiftByHand(rule, text))
		}
	}
}

func TestCountShifts(t *testing.T) {
	cases := []struct {
		rule  impl.ShiftRule
		count int64
	}{
		{exampleRule(), 6}, {impl.ShiftRule{Slots: 3, Least: 3, Most: 3, Row: 1, Pause: 1}, 0}, {impl.ShiftRule{Slots: 3, Row: 1, Pause: 1}, 1},
		{impl.ShiftRule{Slots: 24, Most: 24, Row: 24, Pause: 1}, 1 << 24}, {impl.ShiftRule{Slots: 24, Least: 12, Most: 12, Row: 24, Pause: 1}, 2704156},
		{impl.ShiftRule{Slots: 24, Most: 24, Row: 1, Pause: 1}, 121393}, {impl.ShiftRule{Slots: 24, Least: 12, Most: 24, Row: 1, Pause: 1}, 13},
		{impl.ShiftRule{Slots: 24, Least: 13, Most: 24, Row: 1, Pause: 1}, 0}, {impl.ShiftRule{Slots: 24, Most: 24, Row: 24, Pause: 24}, 1 + 24*25/2},
		// There is room for a pause just between the first slot and the last one.
		{impl.ShiftRule{Slots: 24, Least: 2, Most: 2, Row: 1, Pause: 22}, 1}, {impl.ShiftRule{Slots: 24, Least: 2, Most: 2, Row: 1, Pause: 23}, 0},
	}
	for _, c := range cases {
		wantTold(t, fmt.Sprint(c.rule), told(impl.CountShifts(c.rule)), c.count)
	}
	r := drawer(311)
	for range 300 {
		rule := drawShiftRule(r, 1+r.Int64N(10))
		wantTold(t, fmt.Sprint(rule), told(impl.CountShifts(rule)), int64(len(shiftsByHand(rule))))
	}
	for range 300 {
		rule := drawShiftRule(r, 11+r.Int64N(14))
		wantTold(t, fmt.Sprint(rule), told(impl.CountShifts(rule)), countByHand(rule, map[[2]int64]int64{}, 0, 0))
	}
}

func TestFirstShifts(t *testing.T) {
	wantTold(t, "all", told(impl.FirstShifts(exampleRule(), 6)), []string{"..w", ".w.", ".ww", "w..", "w.w", "ww."})
	wantTold(t, "fewer than asked for", told(impl.FirstShifts(exampleRule(), 7)), []string{"..w", ".w.", ".ww", "w..", "w.w", "ww."})
	wantTold(t, "the most", told(impl.FirstShifts(exampleRule(), 64)), []string{"..w", ".w.", ".ww", "w..", "w.w", "ww."})
	wantTold(t, "no room", told(impl.FirstShifts(impl.ShiftRule{Slots: 3, Least: 2, Most: 2, Row: 1, Pause: 2}, 64)), nil)
	wantTold(t, "room for one", told(impl.FirstShifts(impl.ShiftRule{Slots: 4, Least: 2, Most: 2, Row: 1, Pause: 2}, 64)), []string{"w..w"})
	wantTold(t, "nothing to do", told(impl.FirstShifts(impl.ShiftRule{Slots: 4, Row: 1, Pause: 2}, 64)), []string{"...."})
	r := drawer(312)
	for range 200 {
		rule := drawShiftRule(r, 1+r.Int64N(10))
		all := shiftsByHand(rule)
		for _, count := range []int{0, 1, 2, r.IntN(65), 63, 64} {
			wantTold(t, fmt.Sprint(rule, count), told(impl.FirstShifts(rule, int64(count))), all[:min(count, len(all))])
		}
	}
	for _, n := range []int64{-1, 65, math.MinInt64, math.MaxInt64} {
		wantNotTold(t, "a wrong count", told(impl.FirstShifts(exampleRule(), n)))
	}
	// The last slots are the first ones that are worked.
	whole, _ := impl.FirstShifts(impl.ShiftRule{Slots: 24, Most: 24, Row: 24, Pause: 1}, 64)
	want(t, "the most of the most", len(whole), 64)
	for i, shift := range whole {
		letters := strings.NewReplacer("0", ".", "1", "w").Replace(fmt.Sprintf("%024b", i))
		want(t, "a shift of the most", shift, letters)
	}
}

func TestNextShift(t *testing.T) {
	r := drawer(313)
	for range 200 {
		rule := drawShiftRule(r, 1+r.Int64N(9))
		all := shiftsByHand(rule)
		for i, shift := range all {
			if i+1 < len(all) {
				wantTold(t, fmt.Sprint(rule, shift), told(impl.NextShift(rule, shift)), all[i+1])
			} else {
				wantNotTold(t, fmt.Sprint(rule, " behind the last one"), told(impl.NextShift(rule, shift)))
			}
		}
		for _, text := range slotTexts(rule.Slots) {
			if !slices.Contains(all, text) {
				wantNotTold(t, fmt.Sprint(rule, " behind what is no shift"), told(impl.NextShift(rule, text)))
			}
		}
	}
	for _, text := range []string{"", "w", ".", "ww", "....", ".w..", "w.x", ".é", "w.\xff", "..W", strings.Repeat("w", 25), strings.Repeat(".", 300000)} {
		wantNotTold(t, "behind what is no shift "+text[:min(9, len(text))], told(impl.NextShift(exampleRule(), text)))
	}
	half := impl.ShiftRule{Slots: 24, Least: 12, Most: 12, Row: 12, Pause: 12}
	wantTold(t, "the next row", told(impl.NextShift(half, strings.Repeat(".", 12)+strings.Repeat("w", 12))), strings.Repeat(".", 11)+strings.Repeat("w", 12)+".")
	wantNotTold(t, "the last row", told(impl.NextShift(half, strings.Repeat("w", 12)+strings.Repeat(".", 12))))
	whole := impl.ShiftRule{Slots: 24, Most: 24, Row: 24, Pause: 1}
	wantTold(t, "far behind", told(impl.NextShift(whole, "."+strings.Repeat("w", 23))), "w"+strings.Repeat(".", 23))
}

// TestShiftsGoOn checks that the first shift, and the next ones, are all shifts, of the most slots that there can be.
func TestShiftsGoOn(t *testing.T) {
	r := drawer(314)
	for range 20 {
		rule := drawShiftRule(r, impl.MaxSlots)
		count := countByHand(rule, map[[2]int64]int64{}, 0, 0)
		first, ok := impl.FirstShifts(rule, 1)
		want(t, fmt.Sprint(rule, " has a first one"), ok && int64(len(first)) == min(1, count), true)
		if count == 0 || count > 5000 {
			continue
		}
		shift := first[0]
		for left := count - 1; ; left-- {
			want(t, fmt.Sprint(rule, shift), isShiftByHand(rule, shift), true)
			next, ok := impl.NextShift(rule, shift)
			if !ok || left == 0 {
				want(t, fmt.Sprint(rule, " ends"), !ok && left == 0, true)
				break
			}
			want(t, "a greater one", next > shift, true)
			shift = next
		}
	}
}

func TestShiftsFail(t *testing.T) {
	for _, rule := range badShiftRules() {
		for _, shift := range []string{"", "...", "w..", "ww."} {
			wantNotTold(t, fmt.Sprint("IsShift ", rule), told(impl.IsShift(rule, shift)))
			wantNotTold(t, fmt.Sprint("NextShift ", rule), told(impl.NextShift(rule, shift)))
		}
		wantNotTold(t, fmt.Sprint("CountShifts ", rule), told(impl.CountShifts(rule)))
		for _, count := range []int64{0, 1, 64} {
			wantNotTold(t, fmt.Sprint("FirstShifts ", rule), told(impl.FirstShifts(rule, count)))
		}
	}
}

// TestCountsShared checks that any number of workers makes the same.
func TestCountsShared(t *testing.T) {
	r := drawer(315)
	for range 40 {
		var rules []impl.ShiftRule
		var counts []int64
		for range 1 + r.IntN(16) {
			rules = append(rules, drawShiftRule(r, 1+r.Int64N(impl.MaxSlots)))
			counts = append(counts, countByHand(rules[len(rules)-1], map[[2]int64]int64{}, 0, 0))
		}
		for workers := int64(1); workers <= impl.MaxWorkers; workers++ {
			wantTold(t, "counts", told(impl.CountsShared(rules, workers)), counts)
		}
	}
	most := impl.ShiftRule{Slots: 24, Most: 24, Row: 24, Pause: 1}
	for workers := int64(1); workers <= impl.MaxWorkers; workers++ {
		wantTold(t, "one rule", told(impl.CountsShared([]impl.ShiftRule{most}, workers)), []int64{1 << 24})
		wantTold(t, "as many as can be", told(impl.CountsShared(repeated(most, 16), workers)), repeated[int64](1<<24, 16))
		wantNotTold(t, "one more", told(impl.CountsShared(repeated(most, 17), workers)))
		wantNotTold(t, "none", told(impl.CountsShared(nil, workers)))
		wantNotTold(t, "none", told(impl.CountsShared([]impl.ShiftRule{}, workers)))
		for _, rule := range badShiftRules() {
			wantNotTold(t, "one wrong rule", told(impl.CountsShared([]impl.ShiftRule{rule}, workers)))
			wantNotTold(t, "a wrong rule behind others", told(impl.CountsShared([]impl.ShiftRule{most, most, rule}, workers)))
		}
	}
	for _, workers := range []int64{0, -1, impl.MaxWorkers + 1, math.MinInt64, math.MaxInt64} {
		wantNotTold(t, "wrong workers", told(impl.CountsShared([]impl.ShiftRule{most}, workers)))
	}
}
