package tests

import (
	"math"
	"testing"

	"loop.example/g01389/impl"
)

func TestSineTurns(t *testing.T) {
	cases := []struct{ x, sine uint32 }{
		{0, 0},
		{negativeZero, negativeZero},
		{0x3e800000, 0x3f800000}, // 0.25
		{0xbe800000, 0xbf800000},
		{0x3f000000, negativeZero}, // 0.5
		{0xbf000000, negativeZero},
		{0x3f400000, 0xbf800000}, // 0.75
		{0xbf400000, 0x3f800000},
		{0x3f800000, 0}, // 1
		{0xbf800000, 0},
		{0x3e000000, 0x3f3504f3}, // 0.125
		{0x3eaaaaab, 0x3f5db3d7}, // 1 / 3
		{0xbeaaaaab, 0xbf5db3d7},
		{0x3dcccccd, 0x3f167918}, // 0.1
		{0x3f666666, 0xbf16791a}, // 0.9
		{0x42f6e979, 0x3e8bbf57}, // 123.456
		{0xc0e9999a, 0xbf73786a}, // -7.3
		{0x3effffff, 0x34490fdb}, // just below 0.5
		{0x3f7fffff, 0xb4c90fdb}, // just below 1
		// With one step less, the last bits of these are others.
		{0x3e7a0502, 0x3f7fd3e2},
		{0x3e8c0a1b, 0x3f7d3602},
		// A small negative number is rounded to a whole turn, whose half has the sine 0 with a sign.
		{0x0da24260, 0x0efee054},
		{0x8da24260, negativeZero},
		{leastBits, 0x00000006},
		{0x80000001, negativeZero},
		// Places behind the point end at 2 to the power of 23, and turns are 0 from 2 to the power of 52 on.
		{0x4affffff, negativeZero},
		{0xcaffffff, negativeZero},
		{0x597fffff, 0},
		{0x59800000, 0},
		{0xd9800000, 0},
		{mostBits, 0},
		{0xff7fffff, 0},
		{infinity, notNumber},
		{minusInf, notNumber},
		{notNumber, notNumber},
	}
	for _, c := range cases {
		wantBits(t, "sine of "+impl.Decimal(int64(c.x)), impl.SineTurns(number(c.x)), c.sine)
	}
}

func TestPhasorOf(t *testing.T) {
	cases := []struct {
		turns  float64
		re, im uint32
	}{
		{0, oneBits, 0},
		{math.Copysign(0, -1), oneBits, negativeZero},
		{0.125, 0x3f3504f3, 0x3f3504f3},
		{0.25, 0, oneBits},
		{-0.25, 0, 0xbf800000},
		{0.375, 0xbf3504f3, 0x3f3504f3},
		{0.5, 0xbf800000, 0},
		{-0.5, 0xbf800000, 0},
		{0.75, 0, 0xbf800000},
		{-0.75, 0, oneBits},
		{1, oneBits, 0},
		{-1, oneBits, 0},
		{1.0 / 3, 0xbf000000, 0x3f5db3d7},
		{-1.0 / 3, 0xbf000000, 0xbf5db3d7},
		{0.1, 0x3f4f1bbd, 0x3f167918},
		{0.6, 0xbf4f1bbd, 0xbf167918},
		{0.85, 0x3f167918, 0xbf4f1bbd},
		{123.456, 0xbf764772, 0x3e8bc05b},
		{-987.654, 0xbf11388a, 0x3f52d308},
		// Small negative turns are rounded to a whole one, which has four quarters.
		{1e-30, oneBits, 0x0efee054},
		{-1e-30, oneBits, 0},
		{-0x1p-54, oneBits, 0},
		{-0x1p-1074, oneBits, 0},
		// The limit of turns.
		{0x1p52 - 0.5, 0xbf800000, 0},
		{-0x1p52 + 0.5, 0xbf800000, 0},
		{0x1p52 - 1, oneBits, 0},
		{0x1p52, oneBits, 0},
		{-0x1p52, oneBits, 0},
		{0x1p64, oneBits, 0},
		{-1e300, oneBits, 0},
		{math.Inf(1), notNumber, notNumber},
		{math.Inf(-1), notNumber, notNumber},
		{math.NaN(), notNumber, notNumber},
	}
	for i, c := range cases {
		wantParts(t, "phasor "+impl.Decimal(int64(i)), impl.PhasorOf(c.turns), c.re, c.im)
	}
}

func TestAngleTurns(t *testing.T) {
	cases := []struct{ y, x, angle uint32 }{
		{0, 0, 0}, {negativeZero, 0, 0}, {0, negativeZero, 0}, {negativeZero, negativeZero, 0},
		{0, oneBits, 0}, {negativeZero, oneBits, 0},
		{0, 0xbf800000, 0x3f000000}, {negativeZero, 0xbf800000, 0x3f000000},
		{oneBits, 0, 0x3e800000}, {oneBits, negativeZero, 0x3e800000},
		{0xbf800000, 0, 0xbe800000}, {0xbf800000, negativeZero, 0xbe800000},
		{oneBits, oneBits, 0x3e000000},
		{oneBits, 0xbf800000, 0x3ec00000},
		{0xbf800000, oneBits, 0xbe000000},
		{0xbf800000, 0xbf800000, 0xbec00000},
		{0x40000000, oneBits, 0x3e346fec},    // 2, 1
		{oneBits, 0x40000000, 0x3d972029},    // 1, 2
		{0xc0400000, 0x40800000, 0xbdd1bfae}, // -3, 4
		{0x40400000, 0xc0800000, 0x3ecb9014}, // 3, -4
		{0xc0800000, 0xc0400000, 0xbeb46fec}, // -4, -3
		// With two halvings instead of three, or with fewer steps, the last bits of these are others.
		{0x3f693531, oneBits, 0x3df0d332},
		{0x3eb11e2c, oneBits, 0x3d591cf5},
		{0x3f50cc05, oneBits, 0x3ddf02cb},
		{0x3f68d3e8, oneBits, 0x3df08f74},
		// Subnormal and greatest numbers.
		{leastBits, oneBits, 0}, {0x80000001, oneBits, negativeZero}, {0x80000001, 0xbf800000, 0xbf000000},
		{oneBits, leastBits, 0x3e800000}, {leastBits, leastBits, 0x3e000000},
		{mostBits, mostBits, 0x3e000000}, {mostBits, leastBits, 0x3e800000}, {0x80000001, mostBits, negativeZero},
		{infinity, oneBits, notNumber}, {oneBits, minusInf, notNumber}, {infinity, infinity, notNumber},
		{notNumber, oneBits, notNumber}, {0, notNumber, notNumber}, {infinity, 0, notNumber},
	}
	for _, c := range cases {
		wantBits(t, "angle", impl.AngleTurns(number(c.y), number(c.x)), c.angle)
		wantBits(t, "angle of a complex number", impl.AngleOf(pair(c.x, c.y)), c.angle)
	}
}

// TestAnglesOfPhasors checks that the angle of a phasor is nearly its number of turns.
func TestAnglesOfPhasors(t *testing.T) {
	for i := -499; i <= 499; i++ {
		turns := float64(i) / 1000
		angle := float64(impl.AngleOf(impl.PhasorOf(turns)))
		if math.Abs(angle-turns) > 1e-6 {
			t.Errorf("angle of the phasor of %v: got %v", turns, angle)
		}
	}
}

func TestTenthsOf(t *testing.T) {
	cases := []struct {
		power  uint32
		tenths int64
	}{
		{oneBits, 0}, {0x40000000, 30}, {0x41200000, 100}, {0x42c80000, 200}, {0x447a0000, 300},
		{0x3f000000, -30}, {0x3dcccccd, -100}, {0x3a83126f, -300}, {0x3f99999a, 8}, {0x7149f2ca, 3000},
		{leastBits, -4485}, {mostSubBits, -3793}, {normalBits, -3793}, {mostBits, 3853},
		{0x3f800001, 0}, {0x3f7fffff, 0},
		// The least powers with some tenths, and the numbers before them.
		{0x3efdaba6, -30}, {0x3efdaba5, -31}, {0x3f774f1d, -1}, {0x3f774f1c, -2}, {0x3f7d11d1, 0}, {0x3f7d11d0, -1},
		{0x3f817b70, 1}, {0x3f817b6f, 0}, {0x3f8df971, 5}, {0x3f8df970, 4}, {0x3f9f4c42, 10}, {0x3f9f4c41, 9},
		{0x3ffc785a, 30}, {0x3ffc7859, 29}, {0x411e2b23, 100}, {0x411e2b22, 99}, {0x45dab35d, 385}, {0x45dab35c, 384},
	}
	for _, c := range cases {
		tenths, ok := impl.TenthsOf(number(c.power))
		want(t, "succeeds", ok, true)
		want(t, "tenths", tenths, c.tenths)
	}
	for _, power := range []uint32{0, negativeZero, 0x80000001, 0xbf800000, infinity, minusInf, notNumber} {
		tenths, ok := impl.TenthsOf(number(power))
		wantFailure(t, "tenths", tenths, ok)
	}
}

func TestLogNumber(t *testing.T) {
	cases := []struct{ x, log uint32 }{
		{oneBits, 0},
		{0x40000000, 0x3f317218}, // 2
		{0x3f000000, 0xbf317218}, // 0.5
		{0x3f400000, 0xbe934b11}, // 0.75
		{0x3f3fffff, 0xbe934b13},
		{0x3fc00000, 0x3ecf991f}, // 1.5
		{0x3fbfffff, 0x3ecf991d},
		{0x41200000, 0x40135d8e}, // 10
		{0x3dcccccd, 0xc0135d8e}, // 0.1
		{0x402df854, 0x3f7fffff}, // e, nearly
		{0x2edbe6ff, 0xc1b834f1}, // 1e-10
		{leastBits, 0xc2ce8ed0},
		{normalBits, 0xc2aeac50},
		{mostBits, 0x42b17218},
		// With fewer steps, or in another way, the last bits of these are others.
		{0x3ebd3fa5, 0xbf7ec98f},
		{0x3f3af7ef, 0xbea0e3b7},
		{0x3c35662b, 0xc0901b88},
		{0x3c413d3a, 0xc08e158f},
		{0x41178feb, 0x400fe5e7},
		{0, minusInf},
		{negativeZero, minusInf},
		{infinity, infinity},
		{minusInf, notNumber},
		{0x80000001, notNumber},
		{0xbf800000, notNumber},
		{notNumber, notNumber},
	}
	for _, c := range cases {
		wantBits(t, "log of "+impl.Decimal(int64(c.x)), impl.LogNumber(number(c.x)), c.log)
	}
}

func TestExpNumber(t *testing.T) {
	cases := []struct{ x, exp uint32 }{
		{0, oneBits},
		{negativeZero, oneBits},
		{leastBits, oneBits},
		{0x3f800000, 0x402df854}, // 1
		{0xbf800000, 0x3ebc5ab2}, // -1
		{0x3f000000, 0x3fd3094c}, // 0.5
		{0x41200000, 0x46ac14ee}, // 10
		{0xc1200000, 0x383e6bce}, // -10
		{0x3a83126f, 0x3f8020c9}, // 0.001
		// Around the greatest finite number, and down to subnormal ones.
		{0x42b170a4, 0x7f7f4648}, // 88.72
		{0x42b175c3, infinity},   // 88.73
		{0xc2ae0000, 0x00b33687}, // -87
		{0xc2b00000, 0x0041edc4}, // -88
		{0xc2c80000, 0x0000001b}, // -100
		{0xc2cff0a4, leastBits},  // -103.97
		{0xc2d00000, 0},          // -104
		// With one step less or more, the last bits of these are others.
		{0x4286088f, 0x6fcdbda3},
		{0xc294b03a, 0x09d6605b},
		{0xc2ac0052, 0x01736c63},
		{0xc2a4e5ef, 0x04049da0},
		// Powers that are computed in another way differ in the last bits of these.
		{0x3b18f346, 0x3f804c91},
		{0x3c5dc4c8, 0x3f81be8d},
		// The limits, reached and exceeded.
		{0x43480000, infinity},
		{0x43480001, infinity},
		{0xc3480000, 0},
		{0xc3480001, 0},
		{mostBits, infinity},
		{0xff7fffff, 0},
		{infinity, infinity},
		{minusInf, 0},
		{notNumber, notNumber},
	}
	for _, c := range cases {
		wantBits(t, "power of "+impl.Decimal(int64(c.x)), impl.ExpNumber(number(c.x)), c.exp)
	}
}
