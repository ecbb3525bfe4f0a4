package tests

import (
	"fmt"
	"math"
	"math/rand/v2"
	"slices"
	"strings"
	"testing"

	"loop.example/g01389/impl"
)

// exampleSaved is a plan with a name.
func exampleSaved() impl.Saved {
	return impl.Saved{Name: "ab", Tasks: []impl.Task{{Time: 2, Needs: 1}, {Time: 100}, behind(3, 20, 0, -100, 1, 100)}, Starts: []int64{0, 2, 65535}}
}

// greatSaved has as much as there can be.
func greatSaved() impl.Saved {
	return impl.Saved{Name: "abcdwxyz", Tasks: greatTasks(), Starts: repeated[int64](65535, impl.MaxTasks)}
}

// drawSaved returns a plan with a name.
func drawSaved(r *rand.Rand) impl.Saved {
	name := []byte("abcdefgh")[:1+r.IntN(8)]
	for i := range name {
		name[i] = byte('a' + r.IntN(26))
	}
	list := drawTasks(r, 1+r.IntN(impl.MaxTasks), -r.Int64N(9))
	return impl.Saved{Name: string(name), Tasks: list, Starts: drawList(r, len(list), 0, []int64{3, 300, 65535}[r.IntN(3)])}
}

// copyOfSaved returns a copy that shares no memory.
func copyOfSaved(s impl.Saved) impl.Saved {
	return impl.Saved{Name: strings.Clone(s.Name), Tasks: copyOfTasks(s.Tasks), Starts: tight(s.Starts)}
}

// badSaved are such ones that are not valid, by one letter, or one number.
func badSaved() []impl.Saved {
	list := []impl.Saved{{}, {Name: "ab"}, {Tasks: []impl.Task{{}}, Starts: []int64{0}}}
	for _, name := range []string{"", "abcdefghi", "A", "aB", "a1", "`", "{", "a b", "a\x00", "\xff", "é", "a\n", "ä"} {
		s := exampleSaved()
		s.Name = name
		list = append(list, s)
	}
	for _, tasks := range badTasks() {
		list = append(list, impl.Saved{Name: "ab", Tasks: tasks, Starts: make([]int64, len(tasks))})
	}
	for _, starts := range [][]int64{nil, {0, 2}, {0, 2, 4, 6}, {0, -1, 4}, {0, 2, 65536}, {65536, 2, 4}, {0, 2, math.MinInt64}, {0, 2, math.MaxInt64}} {
		s := exampleSaved()
		s.Starts = starts
		list = append(list, s)
	}
	return list
}

func TestValidSaved(t *testing.T) {
	for _, s := range []impl.Saved{exampleSaved(), greatSaved(), {Name: "z", Tasks: []impl.Task{{}}, Starts: []int64{0}}} {
		want(t, fmt.Sprint("valid ", s), impl.ValidSaved(s), true)
	}
	for _, s := range badSaved() {
		want(t, fmt.Sprint("not valid ", s), impl.ValidSaved(s), false)
	}
}

func TestSameSaved(t *testing.T) {
	all := append(badSaved(), exampleSaved(), greatSaved())
	for i, s := range all {
		other := copyOfSaved(s)
		want(t, "the same", impl.SameSaved([]impl.Saved{s}, []impl.Saved{other}), true)
		want(t, "twice the same", impl.SameSaved([]impl.Saved{s, all[0]}, []impl.Saved{other, all[0]}), true)
		want(t, "one more", impl.SameSaved([]impl.Saved{s}, []impl.Saved{other, other}) || impl.SameSaved([]impl.Saved{s, s}, []impl.Saved{other}), false)
		for k, another := range all {
			if fmt.Sprint(s) != fmt.Sprint(another) {
				want(t, fmt.Sprint("others ", i, k), impl.SameSaved([]impl.Saved{s}, []impl.Saved{another}) || impl.SameSaved([]impl.Saved{s, s}, []impl.Saved{other, another}), false)
			}
		}
	}
	want(t, "none", impl.SameSaved(nil, []impl.Saved{}), true)
	want(t, "nil and empty", impl.SameSaved([]impl.Saved{{}}, []impl.Saved{{Tasks: []impl.Task{}, Starts: []int64{}}}), true)
	for _, change := range []func(s *impl.Saved){
		func(s *impl.Saved) { s.Name = "aB" }, func(s *impl.Saved) { s.Name = "abc" }, func(s *impl.Saved) { s.Name = "" }, func(s *impl.Saved) { s.Tasks[0].Time++ }, func(s *impl.Saved) { s.Tasks[2].Lags[1]++ },
		func(s *impl.Saved) { s.Tasks = s.Tasks[:2] }, func(s *impl.Saved) { s.Starts[1]++ }, func(s *impl.Saved) { s.Starts = s.Starts[:2] }, func(s *impl.Saved) { s.Starts = nil }, func(s *impl.Saved) { s.Tasks = nil },
	} {
		s := exampleSaved()
		change(&s)
		want(t, fmt.Sprint("changed ", s), impl.SameSaved([]impl.Saved{s}, []impl.Saved{exampleSaved()}) || impl.SameSaved([]impl.Saved{exampleSaved()}, []impl.Saved{s}), false)
	}
}

// checked returns bytes with the two bytes of their check number.
func checked(s string) string {
	check := checkByHand(0, s)
	return s + string([]byte{byte(check), byte(check >> 8)})
}

// storeByHand returns the bytes of a valid plan with a name.
func storeByHand(s impl.Saved) string {
	numbers := []int64{int64(len(s.Tasks))}
	for _, task := range s.Tasks {
		numbers = append(numbers, task.Time, task.Needs, int64(len(task.Before)))
		for i := range task.Before {
			numbers = append(numbers, task.Before[i], 100+task.Lags[i])
		}
	}
	for _, start := range s.Starts {
		numbers = append(numbers, start%256, start/256)
	}
	text := "PLN1" + string([]byte{byte(len(s.Name))}) + s.Name
	for _, number := range numbers {
		text += string([]byte{byte(number)})
	}
	return checked(text)
}

// wantLoaded fails if LoadSaved has failed, or has returned something else.
func wantLoaded(t *testing.T, what, bytes string, wanted impl.Saved) {
	t.Helper()
	s, ok := impl.LoadSaved(bytes)
	want(t, what, ok && impl.SameSaved([]impl.Saved{s}, []impl.Saved{wanted}) && fmt.Sprint(s) == fmt.Sprint(wanted), true)
}

func TestStoreSaved(t *testing.T) {
	one := impl.Saved{Name: "a", Tasks: []impl.Task{{Time: 2, Needs: 1}, behind(3, 1, 0, 0)}, Starts: []int64{0, 258}}
	wantTold(t, "two tasks", told(impl.StoreSaved(one)), checked("PLN1\x01a\x02\x02\x01\x00\x03\x01\x01\x00\x64\x00\x00\x02\x01"))
	wantTold(t, "lags at both ends", told(impl.StoreSaved(exampleSaved())), checked("PLN1\x02ab\x03\x02\x01\x00\x64\x00\x00\x03\x14\x02\x00\x00\x01\xc8\x00\x00\x02\x00\xff\xff"))
	least := "PLN1\x01z\x01\x00\x00\x00\x00\x00"
	check, _ := impl.CheckOf(0, least)
	wantTold(t, "one task", told(impl.StoreSaved(impl.Saved{Name: "z", Tasks: []impl.Task{{}}, Starts: []int64{0}})), least+string([]byte{byte(check % 256), byte(check / 256)}))
	wantTold(t, "as much as there can be", told(impl.StoreSaved(greatSaved())), storeByHand(greatSaved()))
	for _, s := range badSaved() {
		wantNotTold(t, fmt.Sprint("not valid ", s), told(impl.StoreSaved(s)))
	}
	r := drawer(450)
	for range 500 {
		s := drawSaved(r)
		wantTold(t, fmt.Sprint("drawn ", s), told(impl.StoreSaved(s)), storeByHand(s))
		wantLoaded(t, fmt.Sprint("loaded ", s), storeByHand(s), s)
	}
	wantLoaded(t, "lags at both ends", storeByHand(exampleSaved()), exampleSaved())
	wantLoaded(t, "as much as there can be", storeByHand(greatSaved()), greatSaved())
}

// wantNotLoaded fails if LoadSaved has not failed, or has returned something else than a zero value.
func wantNotLoaded(t *testing.T, what, bytes string) {
	t.Helper()
	s, ok := impl.LoadSaved(bytes)
	want(t, what, !ok && s.Name == "" && len(s.Tasks) == 0 && len(s.Starts) == 0, true)
}

func TestLoadSavedFails(t *testing.T) {
	for _, s := range []impl.Saved{exampleSaved(), greatSaved(), {Name: "z", Tasks: []impl.Task{{}}, Starts: []int64{0}}} {
		whole := storeByHand(s)
		for length := range len(whole) {
			wantNotLoaded(t, "cut short", whole[:length])
			if length != len(whole)-2 {
				wantNotLoaded(t, "cut short, with a check number", checked(whole[:length]))
			}
			wantNotLoaded(t, "without its beginning", whole[length+1:])
			wantNotLoaded(t, "without a byte", whole[:length]+whole[length+1:])
			for other := range 256 {
				bytes := []byte(whole)
				bytes[length] = byte(other)
				if string(bytes) != whole {
					wantNotLoaded(t, fmt.Sprintf("the byte %d is %d", length, other), string(bytes))
				}
			}
		}
		for other := range 256 {
			wantNotLoaded(t, "with a byte more", whole+string([]byte{byte(other)}))
			wantNotLoaded(t, "with a byte before", string([]byte{byte(other)})+whole)
			wantNotLoaded(t, "with a byte more before the check number", checked(whole[:len(whole)-2]+string([]byte{byte(other)})))
		}
		wantNotLoaded(t, "twice", whole+whole)
		wantNotLoaded(t, "with other bytes", whole+whole[:7])
		wantNotLoaded(t, "with many other bytes", whole+strings.Repeat("\xff", 300000))
	}
	for _, bytes := range []string{"", "P", "PLN1", checked(""), checked("PLN1"), checked("PLN1\x00"), checked("PLN1\x00\x00"), checked("PLN1\x01a\x00"), strings.Repeat("PLN1", 100), strings.Repeat("\xff", 300000)} {
		wantNotLoaded(t, fmt.Sprintf("no file %.20q", bytes), bytes)
	}
}

// TestLoadSavedOfOtherBytes changes bytes, and lets the check number be right: what is loaded then is stored in these bytes.
func TestLoadSavedOfOtherBytes(t *testing.T) {
	// Each byte of the head, and each one that counts something, is right as it was; a letter of a name is one of 26, and so on.
	const head, letter, time, needs, lag, start = 4, 26, 101, 21, 201, 2 * 256
	for _, c := range []struct {
		s     impl.Saved
		count int
	}{
		// Of the two Before of the last task, none can be another one.
		{exampleSaved(), head + 1 + 2*letter + 1 + 3*(time+needs+1) + 2*(1+lag) + 3*start},
		// The Before of the last task can be both other ones.
		{impl.Saved{Name: "z", Tasks: []impl.Task{{}, {}, behind(0, 0, 0, 0)}, Starts: []int64{0, 7, 300}}, head + 1 + letter + 1 + 3*(time+needs+1) + 2 + lag + 3*start},
	} {
		whole := storeByHand(c.s)
		whole = whole[:len(whole)-2]
		count := 0
		for at := range len(whole) {
			for other := range 256 {
				bytes := []byte(whole)
				bytes[at] = byte(other)
				changed := checked(string(bytes))
				loaded, ok := impl.LoadSaved(changed)
				if !ok {
					wantNotLoaded(t, "not its own bytes", changed)
					continue
				}
				count++
				want(t, "valid", impl.ValidSaved(loaded), true)
				want(t, "the bytes are its own", storeByHand(loaded), changed)
			}
		}
		want(t, "how many are right", count, c.count)
	}
}

// wantRecovered fails if RecoverAll has returned something else than some first ones, and how many bytes these are, or has failed.
func wantRecovered(t *testing.T, what, bytes string, list []impl.Saved) {
	t.Helper()
	length := 0
	for _, s := range list {
		length += len(storeByHand(s))
	}
	got, n, ok := impl.RecoverAll(bytes)
	want(t, what, fmt.Sprint(n, ok, impl.SameSaved(got, list)), fmt.Sprint(length, true, true))
}

func TestStoreAll(t *testing.T) {
	wantTold(t, "none", told(impl.StoreAll(nil)), "")
	wantTold(t, "one", told(impl.StoreAll([]impl.Saved{exampleSaved()})), storeByHand(exampleSaved()))
	wantTold(t, "two", told(impl.StoreAll([]impl.Saved{exampleSaved(), greatSaved()})), storeByHand(exampleSaved())+storeByHand(greatSaved()))
	for _, s := range badSaved() {
		wantNotTold(t, "one is not valid", told(impl.StoreAll([]impl.Saved{exampleSaved(), s, exampleSaved()})))
		wantNotTold(t, "the last one is not valid", told(impl.StoreAll([]impl.Saved{exampleSaved(), s})))
	}
	eight := repeated(greatSaved(), impl.MaxSaved)
	wantTold(t, "eight", told(impl.StoreAll(eight)), strings.Repeat(storeByHand(greatSaved()), 8))
	wantNotTold(t, "nine", told(impl.StoreAll(append(eight, exampleSaved()))))
}

func TestRecoverAll(t *testing.T) {
	r := drawer(451)
	for range 30 {
		var list []impl.Saved
		var all string
		ends := []int{0}
		for range r.IntN(impl.MaxSaved + 1) {
			list = append(list, drawSaved(r))
			all += storeByHand(list[len(list)-1])
			ends = append(ends, len(all))
		}
		wantTold(t, "drawn ones", told(impl.StoreAll(list)), all)
		wantRecovered(t, "all", all, list)
		for length := range len(all) {
			// How many ones end by this byte.
			whole, found := slices.BinarySearch(ends, length)
			if !found {
				whole--
			}
			wantRecovered(t, "cut short", all[:length], list[:whole])
			bytes := []byte(all)
			bytes[length] ^= byte(1 + r.IntN(255))
			wantRecovered(t, "a byte is another one", string(bytes), list[:whole])
		}
		if len(list) < impl.MaxSaved {
			wantRecovered(t, "others behind them", all+"PLN1\x01a\x01\x00", list)
			wantRecovered(t, "many others behind them", all+strings.Repeat("P", 300000), list)
			wantRecovered(t, "one that is no file between", all+"P"+storeByHand(exampleSaved()), list)
		}
	}
	one := storeByHand(exampleSaved())
	eight := repeated(exampleSaved(), impl.MaxSaved)
	for _, more := range []string{"", "P", "x", one, one + one, strings.Repeat(one, 100)} {
		wantRecovered(t, "no more than eight", strings.Repeat(one, 8)+more, eight)
	}
	wantRecovered(t, "none", "", nil)
	wantRecovered(t, "no file", "no file", nil)
}
