package tests

import (
	"math"
	"slices"
	"strings"
	"testing"

	"loop.example/g01389/impl"
)

func TestNumbersText(t *testing.T) {
	cases := []struct {
		list []float32
		text string
	}{
		{nil, "none"},
		{[]float32{}, "none"},
		{[]float32{0}, "00000000"},
		{[]float32{1, -2}, "3f800000,c0000000"},
		{[]float32{number(negativeZero), number(leastBits), number(mostSubBits)}, "80000000,00000001,007fffff"},
		{[]float32{number(infinity), number(minusInf), number(mostBits)}, "7f800000,ff800000,7f7fffff"},
		{[]float32{0.1, number(0xabcdef01)}, "3dcccccd,abcdef01"},
		{[]float32{number(0xffffffff), number(0x7f800001)}, "7fc00000,7fc00000"},
	}
	for _, c := range cases {
		text, ok := impl.NumbersText(c.list)
		want(t, "succeeds", ok, true)
		want(t, "text", text, c.text)
		list, ok := impl.ReadNumbers(c.text)
		want(t, "reader succeeds", ok, true)
		want(t, "read", slices.EqualFunc(list, c.list, impl.SameNumber), true)
	}
}

func TestLimitsOfNumbersText(t *testing.T) {
	full := repeated[float32](-1, impl.MaxNumbers)
	text, ok := impl.NumbersText(full)
	want(t, "as many as allowed succeed", ok, true)
	want(t, "as many as allowed", text, strings.Repeat("bf800000,", impl.MaxNumbers-1)+"bf800000")
	list, ok := impl.ReadNumbers(text)
	want(t, "as many as allowed are read", ok && slices.Equal(list, full), true)
	more, ok := impl.NumbersText(append(full, 1))
	wantFailure(t, "too many", more, ok)
	list, ok = impl.ReadNumbers(text + ",bf800000")
	wantListFailure(t, "text of too many", list, ok)
}

func TestReadNumbersFails(t *testing.T) {
	bad := []string{
		"", " ", ",", "None", "none ", "none,none", "none,00000000", "00000000,none",
		"3f80000", "3f8000000", "03f800000", "003f800000", "000000000000000000003f800000", "3f800000,", ",3f800000", "3f800000,,3f800000", "3f800000 ", " 3f800000", "3f800000\n", "3f800000;3f800000",
		"3F800000", "3f80000g", "3f80000`", "3f80000/", "3f80000:", "0x3f8000", "+3f80000", "-3f80000", "3f_80000", "3f80000@",
		// Bits of not-a-numbers that no text has.
		"7f800001", "7fc00001", "7fffffff", "ff800001", "ffc00000", "ffffffff", "3f800000,ffc00000",
		// Digits of other scripts, and bytes that are no runes.
		"３f80000", "\xff\xfe\xfd\xfc\xfb\xfa\xf9\xf8", "3f80000\x00", "3f8000é", "٣٣٣٣",
	}
	for _, s := range bad {
		list, ok := impl.ReadNumbers(s)
		wantListFailure(t, "read "+s, list, ok)
		pairs, ok := impl.ReadComplex(s + s)
		if s != "," && s != "" {
			wantListFailure(t, "read twice "+s, pairs, ok)
		}
		pairs, ok = impl.ReadComplex("00000000" + s)
		wantListFailure(t, "read as an imaginary part "+s, pairs, ok)
	}
}

func TestComplexText(t *testing.T) {
	cases := []struct {
		list []complex64
		text string
	}{
		{nil, "none"},
		{[]complex64{1}, "3f80000000000000"},
		{[]complex64{1, complex(0, -2)}, "3f80000000000000,00000000c0000000"},
		{[]complex64{pair(negativeZero, leastBits)}, "8000000000000001"},
		{[]complex64{pair(infinity, minusInf), pair(mostBits, mostSubBits)}, "7f800000ff800000,7f7fffff007fffff"},
		{[]complex64{pair(0xffffffff, 0), pair(0, 0x7f800001)}, "7fc0000000000000,000000007fc00000"},
	}
	for _, c := range cases {
		text, ok := impl.ComplexText(c.list)
		want(t, "succeeds", ok, true)
		want(t, "text", text, c.text)
		list, ok := impl.ReadComplex(c.text)
		want(t, "reader succeeds", ok, true)
		want(t, "read", slices.EqualFunc(list, c.list, impl.SameComplex), true)
	}
}

func TestLimitsOfComplexText(t *testing.T) {
	full := repeated[complex64](complex(1, -1), impl.MaxNumbers)
	text, ok := impl.ComplexText(full)
	want(t, "as many as allowed succeed", ok, true)
	want(t, "as many as allowed", text, strings.Repeat("3f800000bf800000,", impl.MaxNumbers-1)+"3f800000bf800000")
	list, ok := impl.ReadComplex(text)
	want(t, "as many as allowed are read", ok && slices.Equal(list, full), true)
	more, ok := impl.ComplexText(append(full, 1))
	wantFailure(t, "too many", more, ok)
	list, ok = impl.ReadComplex(text + ",3f800000bf800000")
	wantListFailure(t, "text of too many", list, ok)
}

func TestReadComplexFails(t *testing.T) {
	bad := []string{
		"", ",", "3f800000", "3f800000,00000000", "3f8000000000000", "3f800000000000000", "3f80000000000000,", ",3f80000000000000",
		"3F80000000000000", "3f8000000000000G", "3f80000000000000 ", "3f800000 0000000", "none,3f80000000000000", "nonenone",
		"7fc0000100000000", "00000000ffffffff", "ffc0000000000000", "3f80000000000000,00000000ff800001",
		"\xff0000000000000\xff", "3f8000000000000é",
	}
	for _, s := range bad {
		list, ok := impl.ReadComplex(s)
		wantListFailure(t, "read "+s, list, ok)
	}
}

func TestIsName(t *testing.T) {
	for _, s := range []string{"a", "z", "ring", "abcdefgh", "zzzzzzzz", "none"} {
		want(t, s, impl.IsName(s), true)
	}
	bad := []string{
		"", "abcdefghi", "A", "aB", "a1", "a b", " a", "a ", "a.", "a_b", "`", "{", "é", "aé", "ａ", "\xff", "a\x00", "a\n", strings.Repeat("a", 264),
	}
	for _, s := range bad {
		want(t, "no name: "+s, impl.IsName(s), false)
	}
	for b := range 256 {
		s := string([]byte{'m', byte(b)})
		want(t, "name with the byte "+impl.Decimal(int64(b)), impl.IsName(s), 'a' <= b && b <= 'z')
	}
}

func TestDecimal(t *testing.T) {
	cases := []struct {
		n    int64
		text string
	}{
		{0, "0"}, {7, "7"}, {-4, "-4"}, {10, "10"}, {-100, "-100"}, {1234567890, "1234567890"},
		{impl.MaxValue, "1000000000000000"}, {-impl.MaxValue, "-1000000000000000"}, {999999999999999, "999999999999999"},
	}
	for _, c := range cases {
		want(t, "decimal", impl.Decimal(c.n), c.text)
		n, ok := impl.ReadDecimal(c.text)
		want(t, "reader succeeds", ok, true)
		want(t, "read", n, c.n)
	}
	want(t, "greatest", impl.Decimal(math.MaxInt64), "9223372036854775807")
	want(t, "least", impl.Decimal(math.MinInt64), "-9223372036854775808")
}

func TestReadDecimalFails(t *testing.T) {
	bad := []string{
		"", "-", "+", "+1", "-0", "00", "01", "-01", "--1", "1-", " 1", "1 ", "1\n", "1.0", "1e3", "0x1", "1_000", "a", "none", "1,2",
		"1000000000000001", "-1000000000000001", "9223372036854775807", "9223372036854775808", "-9223372036854775809",
		"18446744073709551617", "100000000000000000000000000000", "٣", "１", "\xff", "1\x00",
	}
	for _, s := range bad {
		n, ok := impl.ReadDecimal(s)
		wantFailure(t, "read "+s, n, ok)
	}
}

func TestListText(t *testing.T) {
	cases := []struct {
		list []int64
		text string
	}{
		{nil, "none"},
		{[]int64{}, "none"},
		{[]int64{0}, "0"},
		{[]int64{3, -2, 3}, "3,-2,3"},
		{[]int64{impl.MaxValue, -impl.MaxValue}, "1000000000000000,-1000000000000000"},
	}
	for _, c := range cases {
		text, ok := impl.ListText(c.list)
		want(t, "succeeds", ok, true)
		want(t, "text", text, c.text)
		list, ok := impl.ReadList(c.text)
		want(t, "reader succeeds", ok, true)
		want(t, "read", slices.Equal(list, c.list), true)
	}
	bad := [][]int64{{impl.MaxValue + 1}, {-impl.MaxValue - 1}, {1, math.MaxInt64}, {math.MinInt64, 1}}
	for _, list := range bad {
		text, ok := impl.ListText(list)
		wantFailure(t, "text", text, ok)
	}
}

func TestLimitsOfListText(t *testing.T) {
	full := repeated[int64](-5, impl.MaxItems)
	text, ok := impl.ListText(full)
	want(t, "as many as allowed succeed", ok, true)
	want(t, "as many as allowed", text, strings.Repeat("-5,", impl.MaxItems-1)+"-5")
	list, ok := impl.ReadList(text)
	want(t, "as many as allowed are read", ok && slices.Equal(list, full), true)
	more, ok := impl.ListText(append(full, 1))
	wantFailure(t, "too many", more, ok)
	list, ok = impl.ReadList(text + ",1")
	wantListFailure(t, "text of too many", list, ok)
}

func TestReadListFails(t *testing.T) {
	bad := []string{
		"", ",", "1,", ",1", "1,,2", "1, 2", "1;2", "1,02", "1,-0", "1,+2", "none,1", "1,none", "None", "none ", "[]", "1 2",
		"1000000000000001", "5,-1000000000000001", "1,2\n", "\xff",
	}
	for _, s := range bad {
		list, ok := impl.ReadList(s)
		wantListFailure(t, "read "+s, list, ok)
	}
}

func TestCheckOf(t *testing.T) {
	cases := []struct {
		start int64
		text  string
		check int64
	}{
		{0, "", 0}, {5, "", 5}, {65002, "", 65002},
		{0, "a", 324}, {1, "a", 1291}, {0, "\x00", 227}, {0, "\xff", 482},
		// (967 * 324 + 98 + 227) mod 65003
		{0, "ab", 53621},
		{65002, "a", 64360},
		{65002, "\xff", 64518},
	}
	for _, c := range cases {
		check, ok := impl.CheckOf(c.start, c.text)
		want(t, "succeeds", ok, true)
		want(t, "check number", check, c.check)
	}
	for _, start := range []int64{-1, 65003, math.MinInt64, math.MaxInt64} {
		for _, s := range []string{"", "a"} {
			check, ok := impl.CheckOf(start, s)
			wantFailure(t, "check number", check, ok)
		}
	}
}

// TestCheckOfParts checks that a text can be checked part by part, byte by byte, whatever its bytes are.
func TestCheckOfParts(t *testing.T) {
	text := "\xff\x00é" + strings.Repeat("plan,", 100)
	whole, ok := impl.CheckOf(17, text)
	want(t, "succeeds", ok, true)
	check := int64(17)
	for i := range len(text) {
		check, ok = impl.CheckOf(check, text[i:i+1])
		want(t, "part succeeds", ok, true)
	}
	want(t, "check number", whole, check)
}
