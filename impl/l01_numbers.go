package impl

import (
	"math"
	"strconv"
	"strings"
)

// Limits of chapter 1.
const (
	MaxNumbers = 256
	MaxValue   = 1000000000000000
	MaxItems   = 64
	CheckSize  = 65003
)

// emptyText is the text of a list without items: the empty text would be the same for no items and for one empty one.
const emptyText = "none"

// notNumberBits are the bits that stand for all not-a-numbers, which are one value.
const notNumberBits = 0x7fc00000

// bitsDigits is how many hexadecimal digits the bits of a number have.
const bitsDigits = 8

// A product is converted to its own type before it is added to something:
// without the conversion, Go may fuse both operations, and round only once.

// SameNumber reports whether two numbers are the same.
func SameNumber(a, b float32) bool { return BitsOf(a) == BitsOf(b) }

// IsFinite reports whether x is finite.
func IsFinite(x float32) bool { return isFiniteLong(float64(x)) }

// isFiniteLong reports whether a 64-bit number is finite.
func isFiniteLong(x float64) bool { return !math.IsNaN(x) && !math.IsInf(x, 0) }

// BitsOf returns the bits of a number.
func BitsOf(x float32) int64 {
	if math.IsNaN(float64(x)) {
		return notNumberBits
	}
	return int64(math.Float32bits(x))
}

// FromBits returns the number with the given bits.
func FromBits(n int64) (float32, bool) {
	if n < 0 || n > math.MaxUint32 {
		return 0, false
	}
	return math.Float32frombits(uint32(n)), true
}

// NarrowNumber returns the nearest 32-bit number.
func NarrowNumber(x float64) float32 { return float32(x) }

// IsSubnormal reports whether x is subnormal.
func IsSubnormal(x float32) bool {
	return x != 0 && math.Abs(float64(x)) < 0x1p-126
}

// FlushNumber returns x, but a zero if it is subnormal.
func FlushNumber(x float32) float32 {
	if IsSubnormal(x) {
		return float32(math.Copysign(0, float64(x)))
	}
	return x
}

// SameComplex reports whether two complex numbers are the same.
func SameComplex(a, b complex64) bool {
	return SameNumber(real(a), real(b)) && SameNumber(imag(a), imag(b))
}

// IsFiniteComplex reports whether both parts are finite.
func IsFiniteComplex(x complex64) bool {
	return IsFinite(real(x)) && IsFinite(imag(x))
}

// NarrowComplex returns a number with narrowed parts.
func NarrowComplex(x complex128) complex64 {
	return complex(NarrowNumber(real(x)), NarrowNumber(imag(x)))
}

// MulComplex returns a product.
func MulComplex(x, y complex64) complex64 { return NarrowComplex(longProduct(x, y)) }

// longProduct returns a product with parts that are not narrowed.
func longProduct(x, y complex64) complex128 {
	a, b := float64(real(x)), float64(imag(x))
	c, d := float64(real(y)), float64(imag(y))
	return complex(float64(a*c)-float64(b*d), float64(a*d)+float64(b*c))
}

// ScaleComplex returns a product with a number.
func ScaleComplex(x complex64, by float32) complex64 {
	return complex(float32(real(x)*by), float32(imag(x)*by))
}

// ConjugateOf returns the conjugate.
func ConjugateOf(x complex64) complex64 { return complex(real(x), -imag(x)) }

// PowerOf returns the power.
func PowerOf(x complex64) float32 { return NarrowNumber(longPower(x)) }

// longPower returns the power, not narrowed.
func longPower(x complex64) float64 {
	a, b := float64(real(x)), float64(imag(x))
	return float64(a*a) + float64(b*b)
}

// LongOf returns the root of the power.
func LongOf(x complex64) float32 { return NarrowNumber(math.Sqrt(longPower(x))) }

// QuotientOf returns a quotient.
func QuotientOf(x, y complex64) complex64 {
	product, power := longProduct(x, ConjugateOf(y)), longPower(y)
	return NarrowComplex(complex(real(product)/power, imag(product)/power))
}

// RootNumber returns the square root.
func RootNumber(x float32) float32 { return NarrowNumber(math.Sqrt(float64(x))) }

// turnsLimit is where numbers of turns begin that are taken as none: they have no places behind the point.
const turnsLimit = 1 << 52

// partOfTurn returns how much of a turn is left without the whole ones, for turns between -turnsLimit and turnsLimit.
func partOfTurn(turns float64) float64 {
	// An int64 has no -0, so that -0 stays -0; math.Trunc would make it +0.
	part := turns - float64(int64(turns))
	if part < 0 {
		part += 1
	}
	return part
}

// sineOf returns the sine of turns between -turnsLimit and turnsLimit.
func sineOf(turns float64) float64 {
	const circle = 6.283185307179586
	f := partOfTurn(turns)
	below := f >= 0.5
	if below {
		f -= 0.5
	}
	if f > 0.25 {
		f = 0.5 - f
	}
	z := f * circle
	u := z * z
	p := 1.0
	for k := 8; k >= 1; k-- {
		p = 1 - u*p/float64(2*k*(2*k+1))
	}
	sine := float64(z * p)
	if below {
		return -sine
	}
	return sine
}

// SineTurns returns the sine of some turns.
func SineTurns(x float32) float32 {
	turns := float64(x)
	if !isFiniteLong(turns) {
		return notNumber()
	}
	if math.Abs(turns) >= turnsLimit {
		return 0
	}
	return NarrowNumber(sineOf(turns))
}

// notNumber returns the not-a-number.
func notNumber() float32 { return math.Float32frombits(notNumberBits) }

// PhasorOf returns a point of the unit circle.
func PhasorOf(turns float64) complex64 {
	if !isFiniteLong(turns) {
		return complex(notNumber(), notNumber())
	}
	if math.Abs(turns) >= turnsLimit {
		return 1
	}
	f := partOfTurn(turns)
	quarters := 0
	for f >= 0.25 {
		f -= 0.25
		quarters++
	}
	return NarrowComplex(turnQuarters(sineOf(0.25-f), sineOf(f), quarters))
}

// turnQuarters returns c + s i, turned by 0 to 4 quarters of a turn.
func turnQuarters(c, s float64, quarters int) complex128 {
	// A part is taken from 0, as its opposite would be -0 where it is 0.
	switch quarters {
	case 1:
		return complex(0-s, c)
	case 2:
		return complex(0-c, 0-s)
	case 3:
		return complex(s, 0-c)
	}
	return complex(c, s)
}

// AngleTurns returns the angle of a point.
func AngleTurns(y, x float32) float32 {
	if !IsFinite(x) || !IsFinite(y) {
		return notNumber()
	}
	if x == 0 && y == 0 {
		return 0
	}
	a, b := math.Abs(float64(y)), math.Abs(float64(x))
	var angle float64
	if a > b {
		angle = 0.25 - flatAngle(b/a)
	} else {
		angle = flatAngle(a / b)
	}
	if x < 0 {
		angle = 0.5 - angle
	}
	if y < 0 {
		angle = -angle
	}
	return NarrowNumber(angle)
}

// flatAngle returns the angle in turns that has a tangent from 0 to 1.
func flatAngle(t float64) float64 {
	const circle = 6.283185307179586
	for range 3 {
		t = t / (1 + math.Sqrt(1+float64(t*t)))
	}
	u := t * t
	p := 0.0
	for k := 15; k >= 1; k -= 2 {
		p = 1/float64(k) - float64(u*p)
	}
	return 8 * float64(t*p) / circle
}

// AngleOf returns the angle in turns.
func AngleOf(x complex64) float32 { return AngleTurns(imag(x), real(x)) }

// logOf returns the natural logarithm of a finite number greater than 0.
func logOf(x float64) float64 {
	const logOfTwo = 0.6931471805599453
	e := 0
	for x >= 1.5 {
		x /= 2
		e++
	}
	for x < 0.75 {
		x *= 2
		e--
	}
	s := (x - 1) / (x + 1)
	u := s * s
	q := 0.0
	for k := 25; k >= 1; k -= 2 {
		q = 1/float64(k) + float64(u*q)
	}
	return float64(2*float64(s*q)) + float64(float64(e)*logOfTwo)
}

// TenthsOf returns tenths of decibels.
func TenthsOf(power float32) (int64, bool) {
	const tenths = 43.42944819032518
	if !IsFinite(power) || power <= 0 {
		return 0, false
	}
	return int64(math.Floor(float64(logOf(float64(power))*tenths) + 0.5)), true
}

// LogNumber returns the logarithm.
func LogNumber(x float32) float32 {
	switch {
	case x == 0:
		return float32(math.Inf(-1))
	case math.IsInf(float64(x), 1):
		return x
	case !IsFinite(x) || x < 0:
		return notNumber()
	}
	return NarrowNumber(logOf(float64(x)))
}

// ExpNumber returns e to a power.
func ExpNumber(x float32) float32 {
	if x > 200 {
		return float32(math.Inf(1))
	}
	if x < -200 {
		return 0
	}
	t := float64(x) / 256
	p := 1.0
	for k := 12; k >= 1; k-- {
		p = 1 + t*p/float64(k)
	}
	for range 8 {
		p *= p
	}
	return NarrowNumber(p)
}

// SumNumbers returns the sum from left to right.
func SumNumbers(list []float32) (float32, bool) {
	if len(list) > MaxNumbers {
		return 0, false
	}
	var sum float32
	for _, x := range list {
		sum += x
	}
	return sum, true
}

// DotNumbers returns the sum of products.
func DotNumbers(a, b []float32) (float32, bool) {
	if len(a) != len(b) || len(a) > MaxNumbers {
		return 0, false
	}
	var sum float32
	for i, x := range a {
		sum += float32(x * b[i])
	}
	return sum, true
}

// SumComplex returns the sum from left to right.
func SumComplex(list []complex64) (complex64, bool) {
	if len(list) > MaxNumbers {
		return 0, false
	}
	var sum complex64
	for _, x := range list {
		sum += x
	}
	return sum, true
}

// DotComplex returns the sum of products.
func DotComplex(a, b []complex64) (complex64, bool) {
	if len(a) != len(b) || len(a) > MaxNumbers {
		return 0, false
	}
	var sum complex64
	for i, x := range a {
		sum += MulComplex(x, b[i])
	}
	return sum, true
}

// DotConjugate returns the sum of products with conjugates.
func DotConjugate(a, b []complex64) (complex64, bool) {
	conjugates := make([]complex64, len(a))
	for i, x := range a {
		conjugates[i] = ConjugateOf(x)
	}
	return DotComplex(conjugates, b)
}

// PowersOf returns the sum of powers.
func PowersOf(list []complex64) (float32, bool) {
	if len(list) > MaxNumbers {
		return 0, false
	}
	var sum float64
	for _, x := range list {
		sum += longPower(x)
	}
	return NarrowNumber(sum), true
}

// itemsText returns the texts of at most most items with commas between them.
func itemsText[T any](list []T, most int, text func(T) (string, bool)) (string, bool) {
	if len(list) > most {
		return "", false
	}
	if len(list) == 0 {
		return emptyText, true
	}
	texts := make([]string, len(list))
	for i, item := range list {
		one, ok := text(item)
		if !ok {
			return "", false
		}
		texts[i] = one
	}
	return strings.Join(texts, ","), true
}

// readItems returns the at most most items of a text, each of which read makes of its part.
func readItems[T any](s string, most int, read func(string) (T, bool)) ([]T, bool) {
	if s == emptyText {
		return nil, true
	}
	parts := strings.Split(s, ",")
	if len(parts) > most {
		return nil, false
	}
	list := make([]T, len(parts))
	for i, part := range parts {
		item, ok := read(part)
		if !ok {
			return nil, false
		}
		list[i] = item
	}
	return list, true
}

// numberText returns the text of one number.
func numberText(x float32) (string, bool) {
	digits := strconv.FormatInt(BitsOf(x), 16)
	return strings.Repeat("0", bitsDigits-len(digits)) + digits, true
}

// readNumber returns the number with the given text.
func readNumber(s string) (float32, bool) {
	if len(s) != bitsDigits {
		return 0, false
	}
	var bits int64
	for _, r := range s {
		digit, ok := hexDigit(r)
		if !ok {
			return 0, false
		}
		bits = bits*16 + digit
	}
	x, ok := FromBits(bits)
	// Bits of other not-a-numbers are not in the text of any number.
	if !ok || BitsOf(x) != bits {
		return 0, false
	}
	return x, true
}

// hexDigit returns the value of a lower-case hexadecimal digit.
func hexDigit(r rune) (int64, bool) {
	switch {
	case '0' <= r && r <= '9':
		return int64(r - '0'), true
	case 'a' <= r && r <= 'f':
		return int64(r-'a') + 10, true
	}
	return 0, false
}

// NumbersText returns the text of numbers.
func NumbersText(list []float32) (string, bool) {
	return itemsText(list, MaxNumbers, numberText)
}

// ReadNumbers returns the numbers with the given text.
func ReadNumbers(s string) ([]float32, bool) {
	return readItems(s, MaxNumbers, readNumber)
}

// complexText returns the text of one complex number.
func complexText(x complex64) (string, bool) {
	first, one := numberText(real(x))
	second, two := numberText(imag(x))
	return first + second, one && two
}

// readComplexOne returns the complex number with the given text.
func readComplexOne(s string) (complex64, bool) {
	if len(s) != 2*bitsDigits {
		return 0, false
	}
	first, one := readNumber(s[:bitsDigits])
	second, two := readNumber(s[bitsDigits:])
	if !one || !two {
		return 0, false
	}
	return complex(first, second), true
}

// ComplexText returns the text of complex numbers.
func ComplexText(list []complex64) (string, bool) {
	return itemsText(list, MaxNumbers, complexText)
}

// ReadComplex returns the complex numbers with the given text.
func ReadComplex(s string) ([]complex64, bool) {
	return readItems(s, MaxNumbers, readComplexOne)
}

// IsName reports whether s is a name.
func IsName(s string) bool {
	if len(s) < 1 || len(s) > 8 {
		return false
	}
	for _, r := range s {
		if r < 'a' || r > 'z' {
			return false
		}
	}
	return true
}

// Decimal returns n in decimal.
func Decimal(n int64) string { return strconv.FormatInt(n, 10) }

// isValue reports whether n is from -MaxValue to MaxValue.
func isValue(n int64) bool { return -MaxValue <= n && n <= MaxValue }

// ReadDecimal returns the number with the given decimal text.
func ReadDecimal(s string) (int64, bool) {
	n, err := strconv.ParseInt(s, 10, 64)
	// ParseInt also reads what no Decimal is: a plus, leading zeros and -0.
	if err != nil || !isValue(n) || Decimal(n) != s {
		return 0, false
	}
	return n, true
}

// valueText returns the text of one integer of a list.
func valueText(n int64) (string, bool) {
	if !isValue(n) {
		return "", false
	}
	return Decimal(n), true
}

// ListText returns the text of a list.
func ListText(list []int64) (string, bool) {
	return itemsText(list, MaxItems, valueText)
}

// ReadList returns the list with the given text.
func ReadList(s string) ([]int64, bool) {
	return readItems(s, MaxItems, ReadDecimal)
}

// CheckOf returns the check number of a text.
func CheckOf(start int64, s string) (int64, bool) {
	if start < 0 || start >= CheckSize {
		return 0, false
	}
	check := start
	for i := range len(s) {
		check = (967*check + int64(s[i]) + 227) % CheckSize
	}
	return check, true
}
