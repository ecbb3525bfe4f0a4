package tests

import (
	"testing"

	"loop.example/g01389/impl"
)

func TestSumNumbers(t *testing.T) {
	cases := []struct {
		list []float32
		sum  uint32
	}{
		{nil, 0},
		{[]float32{1, 2, 3.5}, 0x40d00000},
		{[]float32{number(negativeZero)}, 0},
		{[]float32{number(negativeZero), number(negativeZero)}, 0},
		// Each sum is rounded on its own, from left to right, ties to even.
		{[]float32{0x1p24, 1, 1}, 0x4b800000},
		{[]float32{1, 1, 0x1p24}, 0x4b800001},
		{[]float32{0x1p24, 3}, 0x4b800002},
		{[]float32{1e30, 1, -1e30}, 0},
		{[]float32{1e30, -1e30, 1}, oneBits},
		{[]float32{number(leastBits), number(mostSubBits)}, normalBits},
		{[]float32{number(mostBits), number(mostBits), number(0xff7fffff)}, infinity},
		{[]float32{number(infinity), number(minusInf)}, notNumber},
		{[]float32{1, number(notNumber), 2}, notNumber},
		{repeated[float32](1, impl.MaxNumbers), 0x43800000},
	}
	for _, c := range cases {
		sum, ok := impl.SumNumbers(c.list)
		want(t, "succeeds", ok, true)
		wantBits(t, "sum", sum, c.sum)
	}
	sum, ok := impl.SumNumbers(repeated[float32](1, impl.MaxNumbers+1))
	wantFailure(t, "too many numbers", sum, ok)
}

func TestDotNumbers(t *testing.T) {
	cases := []struct {
		a, b []float32
		sum  uint32
	}{
		{nil, []float32{}, 0},
		{[]float32{1, 2}, []float32{3, 4}, 0x41300000},
		{[]float32{1}, []float32{number(negativeZero)}, 0},
		// A product is rounded before it is added: 0x1.001p0 squared is between two numbers.
		{[]float32{-0x1.002p0, 0x1.001p0}, []float32{1, 0x1.001p0}, 0},
		{[]float32{0x1p24, 1, 1}, []float32{1, 1, 1}, 0x4b800000},
		{[]float32{number(leastBits), 1}, []float32{0.5, 0}, 0},
		{[]float32{number(leastBits)}, []float32{0.75}, leastBits},
		{[]float32{0x1p100, -0x1p100}, []float32{0x1p100, 0x1p100}, notNumber},
		{[]float32{number(infinity)}, []float32{0}, notNumber},
		{repeated[float32](1, impl.MaxNumbers), repeated[float32](2, impl.MaxNumbers), 0x44000000},
	}
	for _, c := range cases {
		sum, ok := impl.DotNumbers(c.a, c.b)
		want(t, "succeeds", ok, true)
		wantBits(t, "sum of products", sum, c.sum)
	}
	long := repeated[float32](1, impl.MaxNumbers+1)
	bad := []struct{ a, b []float32 }{
		{[]float32{1}, nil}, {nil, []float32{1}}, {[]float32{1, 2}, []float32{1, 2, 3}}, {long, long}, {long, long[:impl.MaxNumbers]},
	}
	for _, c := range bad {
		sum, ok := impl.DotNumbers(c.a, c.b)
		wantFailure(t, "sum of products", sum, ok)
	}
}

func TestSumComplex(t *testing.T) {
	cases := []struct {
		list   []complex64
		re, im uint32
	}{
		{nil, 0, 0},
		{[]complex64{1, complex(2, 3)}, 0x40400000, 0x40400000},
		{[]complex64{pair(negativeZero, negativeZero)}, 0, 0},
		{[]complex64{complex(0x1p24, 1), complex(1, 1), complex(1, 0x1p24)}, 0x4b800000, 0x4b800001},
		{[]complex64{pair(infinity, mostBits), pair(minusInf, mostBits)}, notNumber, infinity},
		{[]complex64{pair(leastBits, notNumber), 0}, leastBits, notNumber},
		{repeated[complex64](complex(1, -1), impl.MaxNumbers), 0x43800000, 0xc3800000},
	}
	for _, c := range cases {
		sum, ok := impl.SumComplex(c.list)
		want(t, "succeeds", ok, true)
		wantParts(t, "sum", sum, c.re, c.im)
	}
	sum, ok := impl.SumComplex(repeated[complex64](1, impl.MaxNumbers+1))
	wantFailure(t, "too many numbers", sum, ok)
}

func TestDotComplex(t *testing.T) {
	i := complex64(complex(0, 1))
	cases := []struct {
		a, b       []complex64
		dot, other complex64
	}{
		{nil, []complex64{}, 0, 0},
		{[]complex64{i}, []complex64{i}, -1, 1},
		{[]complex64{complex(1, 2), complex(3, 4)}, []complex64{complex(5, 6), complex(7, -8)}, complex(46, 20), complex(6, -56)},
		// The parts of a product are narrowed in its end, which is before it is added.
		{[]complex64{complex(0x1.001p0, 1)}, []complex64{complex(0x1.001p0, 1)}, complex(0x1.0008p-11, 0x1.001p1), complex(0x1.001p1, 0)},
		{[]complex64{-0x1.002p0, 0x1.001p0}, []complex64{1, 0x1.001p0}, 0, 0},
		// Sums are 32-bit numbers, from left to right.
		{[]complex64{0x1p24, 1, 1}, []complex64{1, 1, 1}, 0x1p24, 0x1p24},
		{[]complex64{1, 1, 0x1p24}, []complex64{1, 1, 1}, 0x1.000002p24, 0x1.000002p24},
		// Sums begin with zeros without signs.
		{[]complex64{0}, []complex64{complex(-1, -1)}, 0, 0},
	}
	for _, c := range cases {
		dot, ok := impl.DotComplex(c.a, c.b)
		want(t, "succeeds", ok, true)
		wantParts(t, "sum of products", dot, bitsOf(real(c.dot)), bitsOf(imag(c.dot)))
		other, ok := impl.DotConjugate(c.a, c.b)
		want(t, "succeeds", ok, true)
		wantParts(t, "sum of products with conjugates", other, bitsOf(real(c.other)), bitsOf(imag(c.other)))
	}
}

func TestLimitsOfDotComplex(t *testing.T) {
	full := repeated[complex64](complex(1, 1), impl.MaxNumbers)
	dot, ok := impl.DotComplex(full, full)
	want(t, "as many as allowed succeed", ok, true)
	want(t, "as many as allowed", dot, complex(0, 512))
	dot, ok = impl.DotConjugate(full, full)
	want(t, "conjugates of as many as allowed succeed", ok, true)
	want(t, "conjugates of as many as allowed", dot, complex(512, 0))
	long := append(full, 1)
	bad := []struct{ a, b []complex64 }{
		{[]complex64{1}, nil}, {nil, []complex64{1}}, {full, full[1:]}, {long, long}, {long, full}, {full, long},
	}
	for _, c := range bad {
		dot, ok := impl.DotComplex(c.a, c.b)
		wantFailure(t, "sum of products", dot, ok)
		dot, ok = impl.DotConjugate(c.a, c.b)
		wantFailure(t, "sum of products with conjugates", dot, ok)
	}
}

func TestPowersOf(t *testing.T) {
	cases := []struct {
		list []complex64
		sum  uint32
	}{
		{nil, 0},
		{[]complex64{complex(3, 4), 1}, 0x41d00000},
		{[]complex64{pair(negativeZero, negativeZero)}, 0},
		// Powers are added as 64-bit numbers, and narrowed only in the end.
		{[]complex64{0x1p12, 1, 1}, 0x4b800001},
		{[]complex64{complex(0x1p-75, 0), complex(0x1p-75, 0)}, leastBits},
		{[]complex64{complex(0x1p-75, 0)}, 0},
		// From left to right: behind the greater powers, those of 1 are lost, and before them, they turn a tie.
		{[]complex64{0x1p27, 0x1p15, 1, 1, 1}, 0x5a800000},
		{[]complex64{1, 1, 1, 0x1p15, 0x1p27}, 0x5a800001},
		{[]complex64{complex(0x1p100, 0)}, infinity},
		{[]complex64{pair(infinity, 0), 1}, infinity},
		{[]complex64{1, pair(0, notNumber)}, notNumber},
		{repeated[complex64](complex(1, 1), impl.MaxNumbers), 0x44000000},
	}
	for _, c := range cases {
		sum, ok := impl.PowersOf(c.list)
		want(t, "succeeds", ok, true)
		wantBits(t, "sum of powers", sum, c.sum)
	}
	sum, ok := impl.PowersOf(repeated[complex64](1, impl.MaxNumbers+1))
	wantFailure(t, "too many numbers", sum, ok)
}
