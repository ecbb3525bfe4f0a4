package tests

import (
	"fmt"
	"math"
	"slices"
	"testing"

	"loop.example/g01389/impl"
)

func TestFreeTime(t *testing.T) {
	two := [][]int64{{0, 5}, {6, 9}}
	for _, c := range []struct {
		what               string
		lists              [][]int64
		from, to, long, at int64
	}{
		{"behind all", two, 0, 20, 2, 9}, {"between two that it touches", two, 0, 20, 1, 5}, {"just enough time", two, 0, 11, 2, 9}, {"from a later time on", two, 12, 20, 2, 12},
		{"ahead of all", [][]int64{{5, 9}}, 0, 20, 5, 0}, {"to its end", [][]int64{{5, 9}}, 0, 5, 5, 0}, {"none", nil, 3, 10000, 9997, 3}, {"as long as it can be", nil, 0, 10000, 10000, 0},
		{"from within a talk", [][]int64{{0, 10}}, 5, 20, 3, 10}, {"from the end of a talk", [][]int64{{0, 5}}, 5, 6, 1, 5}, {"a talk within it", [][]int64{{4, 5}}, 0, 20, 9, 5},
		{"talks that are not in order", [][]int64{{8, 12, 0, 3}, {3, 8}}, 0, 20, 1, 12}, {"the last time", [][]int64{{0, 9999}}, 0, 10000, 1, 9999}, {"eight lists", slices.Repeat([][]int64{{0, 7}}, 8), 0, 8, 1, 7},
	} {
		wantTold(t, c.what, told(impl.FreeTime(c.lists, c.from, c.to, c.long)), c.at)
	}
	for _, c := range []struct {
		what           string
		lists          [][]int64
		from, to, long int64
	}{
		{"no time at the end", two, 0, 10, 2}, {"no time between", two, 0, 9, 2}, {"back", nil, 5, 4, 1}, {"no time", nil, 5, 5, 1}, {"too long", nil, 1, 10000, 10000}, {"all day", [][]int64{{0, 10000}}, 0, 10000, 1},
		{"nine lists", slices.Repeat([][]int64{{0, 1}}, 9), 5, 20, 1}, {"an empty list", [][]int64{{0, 1}, nil}, 5, 20, 1},
	} {
		wantNotTold(t, c.what, told(impl.FreeTime(c.lists, c.from, c.to, c.long)))
	}
	for _, wrong := range []int64{-1, 10001, math.MinInt64, math.MaxInt64} {
		wantNotTold(t, "a wrong from", told(impl.FreeTime(nil, wrong, 100, 1)))
		wantNotTold(t, "a wrong to", told(impl.FreeTime(nil, 0, wrong, 1)))
		wantNotTold(t, "a wrong length", told(impl.FreeTime(nil, 0, 10000, wrong)))
		wantNotTold(t, "a wrong length, and another from", told(impl.FreeTime(two, 7, 20, wrong)))
	}
	wantNotTold(t, "no length", told(impl.FreeTime(nil, 0, 10000, 0)))
}

func TestFreeTimeDrawn(t *testing.T) {
	r := drawer(430)
	counts := map[bool]int{}
	for range 2000 {
		var lists [][]int64
		var all []int64
		for range r.IntN(impl.MaxZones + 1) {
			lists = append(lists, drawTalks(r, 1+r.IntN(6), 60))
			all = append(all, lists[len(lists)-1]...)
		}
		from, to, long := r.Int64N(50), r.Int64N(70), 1+r.Int64N(9)
		at := int64(-1)
		for start := to - long; start >= from; start-- {
			if meeting := append([]int64{start, start + long}, all...); !meetsOne(meeting, 0, upwards(len(meeting)/2)) {
				at = start
			}
		}
		counts[at >= 0]++
		got := told(impl.FreeTime(lists, from, to, long))
		if at < 0 {
			wantNotTold(t, fmt.Sprint("no time ", lists, from, to, long), got)
		} else {
			wantTold(t, fmt.Sprint("a time ", lists, from, to, long), got, at)
		}
	}
	want(t, "with and without a time", counts[true] > 200 && counts[false] > 200, true)
}

// wantLocal fails if LocalTime has failed, or has returned something else.
func wantLocal(t *testing.T, minute, zone, day, ofDay int64) {
	t.Helper()
	d, m, ok := impl.LocalTime(minute, zone)
	want(t, fmt.Sprint("local time ", minute, zone), fmt.Sprint(d, m, ok), fmt.Sprint(day, ofDay, true))
}

func TestLocalTime(t *testing.T) {
	for _, c := range [][4]int64{
		{30, -60, -1, 1410}, {0, 0, 0, 0}, {-1, 0, -1, 1439}, {-1440, 0, -1, 0}, {-1441, 0, -2, 1439}, {1439, 0, 0, 1439}, {1439, 1, 1, 0}, {1440, -1, 0, 1439}, {60, -60, 0, 0}, {-840, 840, 0, 0}, {0, 840, 0, 840},
		{0, -720, -1, 720}, {-720, -720, -1, 0}, {-721, -720, -2, 1439}, {1000000, 840, 695, 40}, {-1000000, -720, -695, 80}, {1000000, 0, 694, 640}, {-1000000, 0, -695, 800},
	} {
		wantLocal(t, c[0], c[1], c[2], c[3])
	}
	for _, zone := range []int64{-720, -1, 0, 61, 840} {
		// The first minute is that of a day far before 0, which goes on minute by minute.
		day, ofDay := int64(-1000), -1000000+zone+1000*1440
		for ; ofDay >= 1440; ofDay -= 1440 {
			day++
		}
		for minute := int64(-1000000); minute <= 1000000; minute++ {
			if minute%97 == 0 || ofDay == 0 || ofDay == 1439 {
				wantLocal(t, minute, zone, day, ofDay)
			}
			if ofDay++; ofDay == 1440 {
				day, ofDay = day+1, 0
			}
		}
	}
	for _, minute := range []int64{-1000001, 1000001, math.MinInt64, math.MaxInt64} {
		wantNoPair[int64, int64](t, "a wrong minute")(impl.LocalTime(minute, 0))
	}
	for _, zone := range []int64{-721, 841, math.MinInt64, math.MaxInt64} {
		wantNoPair[int64, int64](t, "a wrong zone")(impl.LocalTime(0, zone))
	}
}

// meetingByHand returns the least minute for a meeting, or -1: zones are looked at day by day.
func meetingByHand(zones []int64, open, close, long int64) int64 {
	for minute := range int64(1440) {
		isOpen := true
		for _, zone := range zones {
			fits := false
			for day := int64(-1); day <= 1; day++ {
				// Each day of a zone begins at its own midnight.
				begin := minute - (day*1440 - zone)
				fits = fits || begin >= open && begin < 1440 && begin+long <= close
			}
			isOpen = isOpen && fits
		}
		if isOpen {
			return minute
		}
	}
	return -1
}

func TestMeetingTime(t *testing.T) {
	for _, c := range []struct {
		zones                 []int64
		open, close, long, at int64
	}{
		{[]int64{0, 60}, 540, 1020, 60, 540}, {[]int64{60, 0}, 540, 1020, 420, 540}, {[]int64{-60, 60}, 540, 1020, 60, 600}, {[]int64{0}, 0, 1440, 1440, 0}, {[]int64{60}, 0, 1440, 1440, 1380},
		{[]int64{840}, 0, 1, 1, 600}, {[]int64{-720}, 1439, 1440, 1, 719}, {[]int64{-720, 840}, 0, 1440, 60, 0}, {[]int64{0, 720}, 0, 1440, 720, 0}, {slices.Repeat([]int64{5}, 8), 5, 6, 1, 0}, {[]int64{1}, 0, 1, 1, 1439},
	} {
		wantTold(t, fmt.Sprint(c), told(impl.MeetingTime(c.zones, c.open, c.close, c.long)), c.at)
	}
	r := drawer(431)
	counts := map[bool]int{}
	for range 1000 {
		zones := drawList(r, 1+r.IntN(impl.MaxZones), -720, 840)
		if r.IntN(2) == 0 {
			zones = drawList(r, 1+r.IntN(impl.MaxZones), -90, 90)
		}
		open := r.Int64N(600)
		close := open + r.Int64N(1441-open)
		long := 1 + r.Int64N(200)
		at := meetingByHand(zones, open, close, long)
		counts[at >= 0]++
		got := told(impl.MeetingTime(zones, open, close, long))
		if at < 0 {
			wantNotTold(t, fmt.Sprint("no minute ", zones, open, close, long), got)
		} else {
			wantTold(t, fmt.Sprint("a minute ", zones, open, close, long), got, at)
		}
	}
	want(t, "with and without a minute", counts[true] > 200 && counts[false] > 200, true)
}

func TestMeetingTimeFails(t *testing.T) {
	for _, zones := range [][]int64{nil, make([]int64, 9), {-721}, {841}, {0, -721}, {0, 841}, {math.MinInt64}, {math.MaxInt64, 0}} {
		wantNotTold(t, fmt.Sprint("wrong zones ", zones), told(impl.MeetingTime(zones, 0, 1440, 1)))
	}
	for _, c := range [][3]int64{
		{-1, 1440, 1}, {1440, 1440, 1}, {math.MinInt64, 1440, 1}, {math.MaxInt64, 1440, 1}, {0, 1441, 1}, {5, 4, 1}, {5, -1, 1}, {0, math.MinInt64, 1}, {0, math.MaxInt64, 1},
		{0, 1440, 0}, {0, 1440, -1}, {0, 1440, 1441}, {0, 1440, math.MinInt64}, {0, 1440, math.MaxInt64}, {5, 5, 1}, {0, 0, 1}, {540, 600, 61},
	} {
		wantNotTold(t, fmt.Sprint("wrong times ", c), told(impl.MeetingTime([]int64{0}, c[0], c[1], c[2])))
	}
	wantNotTold(t, "zones that are far apart", told(impl.MeetingTime([]int64{0, 720}, 540, 600, 60)))
	wantNotTold(t, "one minute too long", told(impl.MeetingTime([]int64{0, 60}, 540, 1020, 421)))
	wantNotTold(t, "a day in two zones", told(impl.MeetingTime([]int64{0, 720}, 0, 1440, 721)))
}
