package tests

import (
	"math"
	"testing"

	"loop.example/g01389/impl"
)

// Bits of numbers at the edges.
const (
	negativeZero = 0x80000000
	leastBits    = 0x00000001 // the least subnormal number
	mostSubBits  = 0x007fffff // the greatest subnormal number
	normalBits   = 0x00800000 // the least normal number
	mostBits     = 0x7f7fffff // the greatest finite number
	infinity     = 0x7f800000
	minusInf     = 0xff800000
	notNumber    = 0x7fc00000
	oneBits      = 0x3f800000
)

// number returns the number with these bits.
func number(bits uint32) float32 { return math.Float32frombits(bits) }

// pair returns the complex number whose parts have these bits.
func pair(re, im uint32) complex64 { return complex(number(re), number(im)) }

// bitsOf tells a number by its bits, all not-a-numbers being one.
func bitsOf(x float32) uint32 {
	if x != x {
		return notNumber
	}
	return math.Float32bits(x)
}

// edgeBits are bits of numbers of all kinds.
func edgeBits() []uint32 {
	return []uint32{
		0, negativeZero, leastBits, 0x80000001, mostSubBits, 0x807fffff, normalBits, 0x80800000,
		mostBits, 0xff7fffff, infinity, minusInf, notNumber, 0xffc00000, 0x7f800001, 0xffffffff,
		oneBits, 0xbf800000, 0x3e800000, 0xbe800000, 0x3f000000, 0xbf400000, 0x3dcccccd, 0x40490fdb,
		0x43480000, 0x43480001, 0xc3480000, 0xc3480001, 0x597fffff, 0x59800000, 0xd9800000,
	}
}

// wantBits fails if a number does not have the bits.
func wantBits(t *testing.T, what string, got float32, want uint32) {
	t.Helper()
	if bitsOf(got) != want {
		t.Errorf("%s: got %v with the bits %#08x, want %#08x", what, got, bitsOf(got), want)
	}
}

// wantParts fails if the parts of a complex number do not have the bits.
func wantParts(t *testing.T, what string, got complex64, re, im uint32) {
	t.Helper()
	if bitsOf(real(got)) != re || bitsOf(imag(got)) != im {
		t.Errorf("%s: got %v with the bits %#08x %#08x, want %#08x %#08x", what, got, bitsOf(real(got)), bitsOf(imag(got)), re, im)
	}
}

// want fails if two values differ.
func want[T comparable](t *testing.T, what string, got, wanted T) {
	t.Helper()
	if got != wanted {
		t.Errorf("%s: got %v, want %v", what, got, wanted)
	}
}

// wantFailure fails if a function has not failed, or has returned something else than a zero value.
func wantFailure[T comparable](t *testing.T, what string, got T, ok bool) {
	t.Helper()
	var zero T
	if ok || got != zero {
		t.Errorf("%s: got %v, %v, want a failure", what, got, ok)
	}
}

// wantListFailure does the same for lists.
func wantListFailure[T any](t *testing.T, what string, got []T, ok bool) {
	t.Helper()
	if ok || len(got) != 0 {
		t.Errorf("%s: got %v, %v, want a failure", what, got, ok)
	}
}

// repeated returns a list of count equal items.
func repeated[T any](item T, count int) []T {
	list := make([]T, count)
	for i := range list {
		list[i] = item
	}
	return list
}

// TestLimitsOfNumbers checks the limits that chapter 1 names.
func TestLimitsOfNumbers(t *testing.T) {
	want(t, "MaxNumbers", impl.MaxNumbers, 256)
	want(t, "MaxValue", impl.MaxValue, 1000000000000000)
	want(t, "MaxItems", impl.MaxItems, 64)
	want(t, "CheckSize", impl.CheckSize, 65003)
}
