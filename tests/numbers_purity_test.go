package tests

import (
	"fmt"
	"math"
	"slices"
	"strings"
	"testing"

	"loop.example/g01389/impl"
)

// telling is a text of results, in which numbers are told by their bits.
type telling struct{ strings.Builder }

func (w *telling) add(results ...any) {
	for _, r := range results {
		switch x := r.(type) {
		case float32:
			fmt.Fprintf(w, "%08x ", bitsOf(x))
		case complex64:
			fmt.Fprintf(w, "%08x%08x ", bitsOf(real(x)), bitsOf(imag(x)))
		case []float32:
			for _, y := range x {
				w.add(y)
			}
			fmt.Fprintf(w, "(%d) ", len(x))
		case []complex64:
			for _, y := range x {
				w.add(y)
			}
			fmt.Fprintf(w, "(%d) ", len(x))
		case []int64:
			for _, y := range x {
				w.add(y)
			}
			fmt.Fprintf(w, "(%d) ", len(x))
		default:
			fmt.Fprintf(w, "%v ", x)
		}
	}
}

// with adds the results of a function with two results, and what they are of.
func with[T any](w *telling, what string) func(T, bool) {
	return func(result T, ok bool) { w.add(what, result, ok) }
}

// ofNumbers tells the results of all functions of chapter 1 that take numbers.
func ofNumbers(x, y float32) string {
	w := &telling{}
	w.add(impl.SameNumber(x, y), impl.IsFinite(x), impl.BitsOf(x), impl.NarrowNumber(float64(x)*float64(y)))
	w.add(impl.IsSubnormal(x), impl.FlushNumber(x), impl.SineTurns(x), impl.AngleTurns(y, x))
	w.add(impl.RootNumber(x), impl.ExpNumber(x), impl.LogNumber(x), impl.PhasorOf(float64(x)*float64(y)))
	with[int64](w, "tenths")(impl.TenthsOf(x))
	a, b := complex(x, y), complex(y, x)
	w.add(impl.SameComplex(a, b), impl.IsFiniteComplex(a), impl.NarrowComplex(complex128(a)), impl.MulComplex(a, b))
	w.add(impl.ScaleComplex(a, y), impl.ConjugateOf(a), impl.PowerOf(a), impl.LongOf(a), impl.QuotientOf(a, b), impl.AngleOf(a))
	return w.String()
}

// ofLists tells the results of all functions of chapter 1 that take lists.
func ofLists(x, y []float32, a, b []complex64, list []int64) string {
	w := &telling{}
	with[float32](w, "sum")(impl.SumNumbers(x))
	with[float32](w, "dot")(impl.DotNumbers(x, y))
	with[complex64](w, "complex sum")(impl.SumComplex(a))
	with[complex64](w, "complex dot")(impl.DotComplex(a, b))
	with[complex64](w, "conjugate dot")(impl.DotConjugate(a, b))
	with[float32](w, "powers")(impl.PowersOf(a))
	with[string](w, "text")(impl.NumbersText(x))
	with[string](w, "complex text")(impl.ComplexText(a))
	with[string](w, "list text")(impl.ListText(list))
	return w.String()
}

// ofTexts tells the results of all functions of chapter 1 that take texts or integers.
func ofTexts(s string, n int64) string {
	w := &telling{}
	with[[]float32](w, "numbers")(impl.ReadNumbers(s))
	with[[]complex64](w, "complex")(impl.ReadComplex(s))
	with[int64](w, "decimal")(impl.ReadDecimal(s))
	with[[]int64](w, "list")(impl.ReadList(s))
	with[int64](w, "check")(impl.CheckOf(n, s))
	with[float32](w, "bits")(impl.FromBits(n))
	w.add(impl.IsName(s), impl.Decimal(n))
	return w.String()
}

// TestNumbersReturnForAll calls all functions of numbers twice with numbers of all kinds.
func TestNumbersReturnForAll(t *testing.T) {
	for _, x := range edgeBits() {
		for _, y := range edgeBits() {
			first := ofNumbers(number(x), number(y))
			want(t, "results for equal numbers", ofNumbers(number(x), number(y)), first)
			if bitsOf(number(x)) == notNumber {
				want(t, "results for another not-a-number", ofNumbers(number(0xff812345), number(y)), first)
			}
		}
	}
}

// TestTextsReturnForAll calls all functions of texts twice with texts and integers of all kinds.
func TestTextsReturnForAll(t *testing.T) {
	texts := []string{
		"", "none", "3f800000", "3f800000,7fc00000", "3f80000000000000", "1,2,3", "-5", "ring", ",,,,", "\xff\xfe\x00", "é世界",
		strings.Repeat("9", 100000), strings.Repeat(",", 100000), strings.Repeat("00000000,", 100000), strings.Repeat("\xff", 100000), strings.Repeat("1,", 64),
	}
	numbers := []int64{math.MinInt64, -impl.MaxValue - 1, -1, 0, 1, impl.CheckSize - 1, impl.CheckSize, math.MaxUint32, math.MaxUint32 + 1, math.MaxInt64}
	for _, s := range texts {
		for _, n := range numbers {
			again := string(append([]byte(nil), s...))
			want(t, "results for equal texts", ofTexts(again, n), ofTexts(s, n))
		}
	}
}

// spare returns a copy of a list in a longer array, and this array.
func spare[T any](list []T, filler T) (part, whole []T) {
	whole = append(append(slices.Clone(list), filler, filler), filler)
	return whole[:len(list)], whole
}

// TestListsAreNotModified calls all functions of lists with lists that have room behind them.
func TestListsAreNotModified(t *testing.T) {
	var numbers []float32
	var pairs []complex64
	for i, bits := range edgeBits() {
		numbers = append(numbers, number(bits))
		pairs = append(pairs, complex(number(bits), float32(i)))
	}
	integers := []int64{3, -1, impl.MaxValue, 0}
	x, wholeX := spare(numbers, 77)
	y, wholeY := spare(numbers[5:], 77)
	a, wholeA := spare(pairs, 77)
	b, wholeB := spare(pairs[5:], 77)
	list, wholeList := spare(integers, 77)
	tell := func() string {
		w := &telling{}
		w.add(wholeX, wholeY, wholeA, wholeB, wholeList)
		return w.String()
	}
	before := tell()
	first := ofLists(x, x, a, a, list)
	ofLists(x, y, a, b, list)
	ofLists(y, x, b, a, list)
	ofLists(wholeX, wholeX, wholeA, wholeA, wholeList)
	want(t, "lists", tell(), before)
	want(t, "results for equal lists", ofLists(slices.Clone(x), x, slices.Clone(a), a, slices.Clone(list)), first)
	bad := []int64{1, impl.MaxValue + 1, 2}
	ofLists(nil, x, nil, a, bad)
	want(t, "a list that is not valid", slices.Equal(bad, []int64{1, impl.MaxValue + 1, 2}), true)
}

// TestListsReturnForAll calls all functions of lists with lists of all lengths, and takes nil and empty ones for the same.
func TestListsReturnForAll(t *testing.T) {
	want(t, "empty lists", ofLists([]float32{}, []float32{}, []complex64{}, []complex64{}, []int64{}), ofLists(nil, nil, nil, nil, nil))
	want(t, "one empty list", ofLists([]float32{1}, []float32{}, []complex64{1}, []complex64{}, nil), ofLists([]float32{1}, nil, []complex64{1}, nil, nil))
	for _, n := range []int{0, 1, 64, 65, 256, 257, 100000} {
		x, a := repeated(number(notNumber), n), repeated(pair(infinity, leastBits), n)
		list := repeated[int64](math.MinInt64, n)
		want(t, "results for equal lists", ofLists(x, x, a, a, list), ofLists(slices.Clone(x), x, slices.Clone(a), a, slices.Clone(list)))
		ofLists(x, nil, a, nil, nil)
		ofLists(nil, x, nil, a, nil)
	}
}

// TestReadListsAreNew checks that lists that are read share no memory.
func TestReadListsAreNew(t *testing.T) {
	numbers, _ := impl.ReadNumbers("3f800000,40000000")
	pairs, _ := impl.ReadComplex("3f80000000000000,4000000000000000")
	list, _ := impl.ReadList("1,2")
	want(t, "lengths", len(numbers) == 2 && len(pairs) == 2 && len(list) == 2, true)
	for i := range 2 {
		numbers[i], pairs[i], list[i] = 9, 9, 9
	}
	numbers, _ = impl.ReadNumbers("3f800000,40000000")
	pairs, _ = impl.ReadComplex("3f80000000000000,4000000000000000")
	list, _ = impl.ReadList("1,2")
	want(t, "numbers", slices.Equal(numbers, []float32{1, 2}), true)
	want(t, "complex numbers", slices.Equal(pairs, []complex64{1, 2}), true)
	want(t, "integers", slices.Equal(list, []int64{1, 2}), true)
}
