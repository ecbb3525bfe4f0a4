package tests

import (
	"math"
	"testing"

	"loop.example/g01389/impl"
)

// TestExamplesOfNumbers checks the examples at the end of chapter 1.
func TestExamplesOfNumbers(t *testing.T) {
	want(t, "product", impl.MulComplex(complex(1, 2), complex(3, -1)), complex(5, 5))
	want(t, "quotient", impl.QuotientOf(complex(0, 4), 2), complex(0, 2))
	wantParts(t, "phasor", impl.PhasorOf(0.25), 0, oneBits)
	want(t, "angle", impl.AngleOf(impl.PhasorOf(0.25)), 0.25)
	text, ok := impl.ComplexText([]complex64{1})
	want(t, "text succeeds", ok, true)
	want(t, "text", text, "3f80000000000000")
	tenths, ok := impl.TenthsOf(1)
	want(t, "tenths succeed", ok, true)
	want(t, "tenths", tenths, 0)
}

func TestSameNumber(t *testing.T) {
	for _, a := range edgeBits() {
		for _, b := range edgeBits() {
			got := impl.SameNumber(number(a), number(b))
			want(t, "same", got, bitsOf(number(a)) == bitsOf(number(b)))
		}
	}
	want(t, "zeros with different signs", impl.SameNumber(0, number(negativeZero)), false)
	want(t, "not-a-numbers with different bits", impl.SameNumber(number(notNumber), number(0xff800001)), true)
	want(t, "a not-a-number and an infinity", impl.SameNumber(number(notNumber), number(infinity)), false)
}

func TestSameComplex(t *testing.T) {
	nan := number(0xffc00001)
	want(t, "equal", impl.SameComplex(complex(1, 2), complex(1, 2)), true)
	want(t, "real parts differ", impl.SameComplex(complex(1, 2), complex(3, 2)), false)
	want(t, "imaginary parts differ", impl.SameComplex(complex(1, 2), complex(1, 3)), false)
	want(t, "real zeros", impl.SameComplex(pair(0, 0), pair(negativeZero, 0)), false)
	want(t, "imaginary zeros", impl.SameComplex(pair(0, 0), pair(0, negativeZero)), false)
	want(t, "not-a-numbers", impl.SameComplex(complex(nan, nan), pair(notNumber, notNumber)), true)
	want(t, "one not-a-number", impl.SameComplex(complex(nan, 1), pair(notNumber, 0)), false)
}

func TestIsFinite(t *testing.T) {
	for _, bits := range edgeBits() {
		finite := bits&0x7f800000 != 0x7f800000
		x := number(bits)
		want(t, "number", impl.IsFinite(x), finite)
		want(t, "real part", impl.IsFiniteComplex(complex(x, 1)), finite)
		want(t, "imaginary part", impl.IsFiniteComplex(complex(1, x)), finite)
	}
	want(t, "both parts", impl.IsFiniteComplex(pair(infinity, notNumber)), false)
}

func TestBitsOf(t *testing.T) {
	for _, bits := range edgeBits() {
		want(t, "bits", impl.BitsOf(number(bits)), int64(bitsOf(number(bits))))
	}
	want(t, "one", impl.BitsOf(1), 1065353216)
	want(t, "negative zero", impl.BitsOf(number(negativeZero)), 2147483648)
	for _, bits := range []uint32{0x7f800001, 0x7fc00000, 0x7fffffff, 0xff800001, 0xffc00000, 0xffffffff} {
		want(t, "not-a-number", impl.BitsOf(number(bits)), 2143289344)
	}
}

func TestFromBits(t *testing.T) {
	for _, bits := range edgeBits() {
		x, ok := impl.FromBits(int64(bits))
		want(t, "succeeds", ok, true)
		wantBits(t, "number", x, bitsOf(number(bits)))
	}
	x, ok := impl.FromBits(4294967295)
	want(t, "greatest bits succeed", ok, true)
	wantBits(t, "greatest bits", x, notNumber)
	for _, n := range []int64{-1, 4294967296, 4294967296 + oneBits, math.MinInt64, math.MaxInt64} {
		x, ok := impl.FromBits(n)
		wantFailure(t, "no bits", x, ok)
	}
}

func TestNarrowNumber(t *testing.T) {
	cases := []struct {
		x    float64
		bits uint32
	}{
		{0, 0}, {math.Copysign(0, -1), negativeZero}, {0.5, 0x3f000000}, {0.1, 0x3dcccccd},
		// Ties go to the even neighbour, and what is beside a tie to the nearer one.
		{1 + 0x1p-24, 0x3f800000}, {1 + 0x3p-24, 0x3f800002}, {-1 - 0x3p-24, 0xbf800002},
		{1 + 0x1p-24 + 0x1p-50, 0x3f800001}, {1 + 0x3p-24 - 0x1p-50, 0x3f800001},
		// Subnormal numbers, and ties between them.
		{0x1p-149, 1}, {0x1p-150, 0}, {-0x1p-150, negativeZero}, {0x1p-150 + 0x1p-190, 1}, {0x3p-150, 2}, {0x5p-150, 2},
		{0x1p-126, normalBits}, {0x1p-126 - 0x1p-149, mostSubBits}, {0x1p-126 - 0x1p-150, normalBits},
		{1e-300, 0}, {-1e-300, negativeZero}, {0x1p-1074, 0},
		// The limit of finite numbers, the tie behind it, and what is just below.
		{0x1.fffffep127, mostBits}, {0x1.ffffffp127, infinity}, {0x1.fffffefffffffp127, mostBits},
		{-0x1.ffffffp127, minusInf}, {1e300, infinity}, {-1e300, minusInf},
		{math.Inf(1), infinity}, {math.Inf(-1), minusInf}, {math.NaN(), notNumber},
	}
	for _, c := range cases {
		wantBits(t, "narrowed", impl.NarrowNumber(c.x), c.bits)
		for _, d := range cases {
			wantParts(t, "narrowed parts", impl.NarrowComplex(complex(c.x, d.x)), c.bits, d.bits)
		}
	}
}

func TestSubnormalNumbers(t *testing.T) {
	for _, bits := range edgeBits() {
		x := number(bits)
		size := bits & 0x7fffffff
		subnormal := size > 0 && size < normalBits
		want(t, "subnormal", impl.IsSubnormal(x), subnormal)
		flushed := bitsOf(x)
		if subnormal {
			flushed = bits & negativeZero
		}
		wantBits(t, "flushed", impl.FlushNumber(x), flushed)
	}
}

// TestProductsOfSmallIntegers checks that products of small integers are exact.
func TestProductsOfSmallIntegers(t *testing.T) {
	for a := -6; a <= 6; a++ {
		for b := -6; b <= 6; b++ {
			for c := -6; c <= 6; c++ {
				for d := -6; d <= 6; d++ {
					x, y := complex(float32(a), float32(b)), complex(float32(c), float32(d))
					want(t, "product", impl.MulComplex(x, y), complex(float32(a*c-b*d), float32(a*d+b*c)))
				}
			}
			want(t, "scaled", impl.ScaleComplex(complex(float32(a), float32(b)), 7), complex(float32(7*a), float32(7*b)))
			want(t, "power", impl.PowerOf(complex(float32(a), float32(b))), float32(a*a+b*b))
		}
	}
	want(t, "greater integers", impl.MulComplex(complex(1000, 999), complex(998, -997)), complex(1994003, 2))
}

func TestMulComplex(t *testing.T) {
	cases := []struct{ x, y, product complex64 }{
		// The difference of products survives, as they are exact until the end.
		{complex(0x1.001p0, 1), complex(0x1.001p0, 1), complex(0x1.0008p-11, 0x1.001p1)},
		{complex(0x1p100, 0x1p100), complex(0x1p100, 0x1p100), pair(0, infinity)},
		{pair(mostBits, mostBits), complex(2, 2), pair(0, infinity)},
		{complex(0x1p-149, 0), complex(0.5, 0.75), pair(0, leastBits)},
		{complex(0x1p-75, 0), complex(-0x1p-75, 0x1p-74), pair(negativeZero, leastBits)},
		// Signs of zeros.
		{complex(0, 0), complex(-1, 1), pair(negativeZero, 0)},
		{pair(negativeZero, negativeZero), complex(1, 1), pair(0, negativeZero)},
		{complex(1, 0), complex(0, 0), pair(0, 0)},
		{pair(negativeZero, 0), complex(1, 0), pair(negativeZero, 0)},
		// Infinities and not-a-numbers.
		{pair(infinity, 0), complex(1, 0), pair(infinity, notNumber)},
		{pair(infinity, infinity), complex(1, 1), pair(notNumber, infinity)},
		{pair(notNumber, 0), complex(1, 0), pair(notNumber, notNumber)},
		{complex(1, 0), pair(minusInf, 2), pair(minusInf, notNumber)},
	}
	for _, c := range cases {
		wantParts(t, "product", impl.MulComplex(c.x, c.y), bitsOf(real(c.product)), bitsOf(imag(c.product)))
	}
}

func TestScaleComplex(t *testing.T) {
	cases := []struct {
		x      complex64
		by     float32
		re, im uint32
	}{
		{complex(1, 2), 0.5, 0x3f000000, oneBits},
		{complex(1, -2), 0, 0, negativeZero},
		{complex(1, -2), number(negativeZero), negativeZero, 0},
		{pair(leastBits, 0x80000001), 0.5, 0, negativeZero},
		{pair(0x00000003, 0x00000001), 0.5, 0x00000002, 0},
		{complex(0.1, 3), 0.1, 0x3c23d70b, 0x3e99999a},
		{complex(0x1p127, 0), 2, infinity, 0},
		{complex(1, 0), number(infinity), infinity, notNumber},
		{pair(notNumber, 0), 1, notNumber, 0},
	}
	for _, c := range cases {
		wantParts(t, "scaled", impl.ScaleComplex(c.x, c.by), c.re, c.im)
	}
}

func TestConjugateOf(t *testing.T) {
	wantParts(t, "ordinary", impl.ConjugateOf(complex(1, 2)), oneBits, 0xc0000000)
	wantParts(t, "zeros", impl.ConjugateOf(0), 0, negativeZero)
	wantParts(t, "negative zeros", impl.ConjugateOf(pair(negativeZero, negativeZero)), negativeZero, 0)
	wantParts(t, "subnormal", impl.ConjugateOf(pair(leastBits, leastBits)), leastBits, 0x80000001)
	wantParts(t, "infinities", impl.ConjugateOf(pair(infinity, infinity)), infinity, minusInf)
	wantParts(t, "not-a-numbers", impl.ConjugateOf(pair(1, notNumber)), 1, notNumber)
}

func TestPowerAndLong(t *testing.T) {
	cases := []struct {
		x           complex64
		power, long uint32
	}{
		{complex(3, 4), 0x41c80000, 0x40a00000},
		{complex(-3, -4), 0x41c80000, 0x40a00000},
		{pair(negativeZero, negativeZero), 0, 0},
		{complex(1, 1), 0x40000000, 0x3fb504f3},
		// The root is that of the power before it is narrowed.
		{pair(leastBits, 0), 0, leastBits},
		{pair(leastBits, leastBits), 0, leastBits},
		{complex(0x1p100, 0), infinity, 0x71800000},
		{pair(mostBits, 0), infinity, mostBits},
		{pair(mostBits, mostBits), infinity, infinity},
		{complex(0x1p12, 1), 0x4b800000, 0x45800000},
		{complex(0x1p12, 2), 0x4b800002, 0x45800001},
		{pair(minusInf, 1), infinity, infinity},
		{pair(infinity, notNumber), notNumber, notNumber},
	}
	for _, c := range cases {
		wantBits(t, "power", impl.PowerOf(c.x), c.power)
		wantBits(t, "long", impl.LongOf(c.x), c.long)
	}
}

func TestQuotientOf(t *testing.T) {
	cases := []struct{ x, y, quotient complex64 }{
		{complex(1, 2), complex(3, 4), pair(0x3ee147ae, 0x3da3d70a)},
		{complex(0.1, 0.2), complex(0.3, -0.7), pair(0xbe4234f7, 0x3e65846b)},
		// Parts and the power are not narrowed before they are divided.
		{complex(0x1p100, 0), complex(0x1p100, 0x1p100), complex(0.5, -0.5)},
		{complex(0x1p-140, 0), complex(0x1p-140, 0), complex(1, 0)},
		{complex(1, 0), complex(0x1p-149, 0), pair(infinity, 0)},
		// Divisions by zero.
		{complex(1, 0), 0, pair(notNumber, notNumber)},
		{0, 0, pair(notNumber, notNumber)},
		{complex(-1, 2), pair(negativeZero, negativeZero), pair(notNumber, notNumber)},
		// Signs of zeros.
		{pair(0, negativeZero), complex(1, 0), pair(0, negativeZero)},
		{pair(negativeZero, negativeZero), complex(1, 0), pair(negativeZero, 0)},
		{pair(infinity, 0), complex(1, 0), pair(infinity, notNumber)},
		{complex(1, 0), pair(infinity, 0), pair(notNumber, notNumber)},
	}
	for _, c := range cases {
		wantParts(t, "quotient", impl.QuotientOf(c.x, c.y), bitsOf(real(c.quotient)), bitsOf(imag(c.quotient)))
	}
}

func TestRootNumber(t *testing.T) {
	cases := []struct{ x, root uint32 }{
		{0x41100000, 0x40400000}, {0x40000000, 0x3fb504f3}, {0, 0}, {negativeZero, negativeZero},
		{leastBits, 0x1a3504f3}, {mostSubBits, 0x1fffffff}, {normalBits, 0x20000000}, {mostBits, 0x5f7fffff},
		{infinity, infinity}, {minusInf, notNumber}, {0x80000001, notNumber}, {0xbf800000, notNumber}, {notNumber, notNumber},
	}
	for _, c := range cases {
		wantBits(t, "root", impl.RootNumber(number(c.x)), c.root)
	}
}
