package gf256

import (
	"math"
	"math/bits"
	"slices"
	"testing"
)

// polynomial is x^8 + x^4 + x^3 + x^2 + 1.
const polynomial = 285

// otherMul computes the whole product of two polynomials first, and then its remainder by long division.
func otherMul(a, b byte) byte {
	product := 0
	for i := range 8 {
		if b>>i&1 == 1 {
			product ^= int(a) << i
		}
	}
	for product > 255 {
		product ^= polynomial << (bits.Len(uint(product)) - 9)
	}
	return byte(product)
}

// otherInv finds the inverse of a nonzero element among all elements.
func otherInv(a byte) byte {
	for i := range 256 {
		if otherMul(a, byte(i)) == 1 {
			return byte(i)
		}
	}
	return 0
}

// otherPow multiplies as often as the exponent says, by a or, if it is negative, by the inverse of a.
func otherPow(a byte, n int) byte {
	if n < 0 {
		a, n = otherInv(a), -n
	}
	power := byte(1)
	for range n {
		power = otherMul(power, a)
	}
	return power
}

// elements returns all bytes.
func elements() []byte {
	l := make([]byte, 256)
	for i := range l {
		l[i] = byte(i)
	}
	return l
}

// greatExponents are too great to multiply as often as they say. The powers of 256 are 1 modulo 255.
var greatExponents = []struct{ n, remainder int }{
	{math.MaxInt64, 127}, {math.MaxInt64 - 1, 126}, {math.MaxInt64 - 127, 0}, {math.MaxInt64 - 128, 254},
	{math.MinInt64, 127}, {math.MinInt64 + 1, 128}, {math.MinInt64 + 128, 0}, {math.MinInt64 + 129, 1},
	{math.MaxInt32, 127}, {math.MaxInt32 + 1, 128}, {math.MinInt32, 127}, {math.MinInt32 - 1, 126}, {math.MaxUint32, 0}, {-math.MaxUint32, 0},
	{1 << 32, 1}, {1 << 40, 1}, {1 << 62, 64}, {-(1 << 32), 254}, {-(1 << 62), 191},
	{255 << 40, 0}, {255<<40 + 254, 254}, {-(255 << 40), 0}, {-(255 << 40) - 1, 254},
}

func check(t *testing.T, what string, got, want byte, arguments ...int) {
	t.Helper()
	if got != want {
		t.Errorf("%s of %v = %d, want %d", what, arguments, got, want)
	}
}

func checkOf(t *testing.T, what string, got byte, ok bool, want byte, arguments ...int) {
	t.Helper()
	if got != want || !ok {
		t.Errorf("%s of %v = %d, %t, want %d, true", what, arguments, got, ok, want)
	}
}

// checkNone checks that there is no result.
func checkNone(t *testing.T, what string, got byte, ok bool, arguments ...int) {
	t.Helper()
	if got != 0 || ok {
		t.Errorf("%s of %v = %d, %t, want 0, false", what, arguments, got, ok)
	}
}

// P5.1: sums, products, inverses and quotients.

func TestAdd(t *testing.T) {
	for _, c := range [][3]byte{{0, 0, 0}, {1, 1, 0}, {0, 77, 77}, {3, 5, 6}, {255, 1, 254}, {0x53, 0xca, 0x99}, {0xf0, 0x0f, 0xff}} {
		check(t, "Add", Add(c[0], c[1]), c[2], int(c[0]), int(c[1]))
	}
	for _, a := range elements() {
		for _, b := range elements() {
			// The two numbers have the bits together that only one of them has.
			check(t, "Add", Add(a, b), a|b-a&b, int(a), int(b))
		}
	}
}

func TestMulExamples(t *testing.T) {
	for _, c := range [][3]byte{
		{2, 128, 29}, {0, 0, 0}, {0, 255, 0}, {1, 1, 1}, {1, 255, 255}, {2, 64, 128}, {3, 3, 5}, {3, 7, 9}, {16, 16, 29}, {128, 128, 19},
		{255, 255, 226}, {2, 142, 1}, {4, 71, 1}, {3, 244, 1}, {0x53, 0xca, 143},
	} {
		check(t, "Mul", Mul(c[0], c[1]), c[2], int(c[0]), int(c[1]))
		check(t, "Mul", Mul(c[1], c[0]), c[2], int(c[1]), int(c[0]))
	}
}

func TestMulOfAllElements(t *testing.T) {
	for _, a := range elements() {
		for _, b := range elements() {
			check(t, "Mul", Mul(a, b), otherMul(a, b), int(a), int(b))
		}
	}
}

func TestInv(t *testing.T) {
	for _, c := range [][2]byte{{1, 1}, {2, 142}, {142, 2}, {3, 244}, {4, 71}, {128, 27}, {255, 253}} {
		x, ok := Inv(c[0])
		checkOf(t, "Inv", x, ok, c[1], int(c[0]))
	}
	for _, a := range elements()[1:] {
		x, ok := Inv(a)
		checkOf(t, "Inv", x, ok, otherInv(a), int(a))
	}
}

func TestZeroHasNoInverse(t *testing.T) {
	x, ok := Inv(0)
	checkNone(t, "Inv", x, ok, 0)
}

func TestDiv(t *testing.T) {
	for _, c := range [][3]byte{{0, 1, 0}, {0, 255, 0}, {1, 2, 142}, {29, 2, 128}, {29, 128, 2}, {5, 3, 3}, {77, 1, 77}, {226, 255, 255}} {
		x, ok := Div(c[0], c[1])
		checkOf(t, "Div", x, ok, c[2], int(c[0]), int(c[1]))
	}
	for _, b := range elements()[1:] {
		inverse := otherInv(b)
		for _, a := range elements() {
			x, ok := Div(a, b)
			checkOf(t, "Div", x, ok, otherMul(a, inverse), int(a), int(b))
			check(t, "the product of the quotient and the divisor", otherMul(x, b), a, int(a), int(b))
		}
	}
}

func TestNothingIsDividedByZero(t *testing.T) {
	for _, a := range elements() {
		x, ok := Div(a, 0)
		checkNone(t, "Div", x, ok, int(a), 0)
	}
}

// P5.2: powers and logarithms.

func TestExpExamples(t *testing.T) {
	for n, want := range map[int]byte{
		0: 1, 1: 2, 2: 4, 7: 128, 8: 29, 9: 58, 25: 3, 127: 204, 128: 133, 253: 71, 254: 142, 255: 1, 256: 2, 263: 29, 510: 1, 511: 2,
		-1: 142, -2: 71, -230: 3, -247: 29, -254: 2, -255: 1, -256: 142, -510: 1, -511: 142,
	} {
		check(t, "Exp", Exp(n), want, n)
	}
}

func TestExp(t *testing.T) {
	for n := -1100; n <= 1100; n++ {
		check(t, "Exp", Exp(n), otherPow(2, n), n)
	}
}

func TestExpOfGreatExponents(t *testing.T) {
	for _, c := range greatExponents {
		check(t, "Exp", Exp(c.n), otherPow(2, c.remainder), c.n)
	}
}

func TestPowersOfTheGeneratorAreAllNonzeroElements(t *testing.T) {
	var powers []byte
	for n := range 255 {
		powers = append(powers, Exp(n))
	}
	slices.Sort(powers)
	if !slices.Equal(powers, elements()[1:]) {
		t.Errorf("the powers of the generator are %v", powers)
	}
}

func TestLog(t *testing.T) {
	for a, want := range map[byte]int{1: 0, 2: 1, 3: 25, 4: 2, 128: 7, 29: 8, 142: 254, 71: 253, 255: 175} {
		if n, ok := Log(a); n != want || !ok {
			t.Errorf("Log of %d = %d, %t, want %d, true", a, n, ok, want)
		}
	}
	for want := range 255 {
		a := otherPow(2, want)
		if n, ok := Log(a); n != want || !ok {
			t.Errorf("Log of %d = %d, %t, want %d, true", a, n, ok, want)
		}
	}
}

func TestZeroHasNoLogarithm(t *testing.T) {
	if n, ok := Log(0); n != 0 || ok {
		t.Errorf("Log of 0 = %d, %t, want 0, false", n, ok)
	}
}

func TestLogReversesExp(t *testing.T) {
	for n := range 255 {
		if m, ok := Log(Exp(n)); m != n || !ok {
			t.Errorf("Log of Exp(%d) = %d, %t", n, m, ok)
		}
	}
	for _, a := range elements()[1:] {
		n, ok := Log(a)
		if !ok || n < 0 || n > 254 {
			t.Errorf("Log of %d = %d, %t", a, n, ok)
		}
		check(t, "Exp of Log", Exp(n), a, int(a))
	}
}

func TestPowExamples(t *testing.T) {
	for _, c := range []struct {
		a    byte
		n    int
		want byte
	}{
		{3, 0, 1}, {3, 1, 3}, {3, 2, 5}, {3, 3, 15}, {2, 8, 29}, {2, -1, 142}, {142, -1, 2}, {3, -1, 244}, {2, -8, 131}, {29, 2, 76},
		{7, 255, 1}, {7, 256, 7}, {7, -255, 1}, {7, -254, 7}, {1, 1000, 1}, {1, -1000, 1}, {255, 254, 253}, {255, 2, 226},
	} {
		x, ok := Pow(c.a, c.n)
		checkOf(t, "Pow", x, ok, c.want, int(c.a), c.n)
	}
}

func TestPow(t *testing.T) {
	for _, a := range elements()[1:] {
		want := byte(1)
		for n := range 600 {
			x, ok := Pow(a, n)
			checkOf(t, "Pow", x, ok, want, int(a), n)
			want = otherMul(want, a)
		}
		want = 1
		inverse := otherInv(a)
		for n := range 600 {
			x, ok := Pow(a, -n)
			checkOf(t, "Pow", x, ok, want, int(a), -n)
			want = otherMul(want, inverse)
		}
	}
}

func TestPowOfGreatExponents(t *testing.T) {
	for _, c := range greatExponents {
		for _, a := range elements()[1:] {
			x, ok := Pow(a, c.n)
			checkOf(t, "Pow", x, ok, otherPow(a, c.remainder), int(a), c.n)
		}
	}
}

func TestThePowerWithTheExponentZeroIsOne(t *testing.T) {
	for _, a := range elements() {
		x, ok := Pow(a, 0)
		checkOf(t, "Pow", x, ok, 1, int(a), 0)
	}
}

// Multiples of 255 are the exponents with which the power of every other element is 1.
func TestPowOfZero(t *testing.T) {
	for _, n := range []int{1, 2, 3, 5, 8, 254, 255, 256, 510, 1000, 255 << 40, math.MaxInt32, math.MaxUint32, math.MaxInt64 - 127, math.MaxInt64} {
		x, ok := Pow(0, n)
		checkOf(t, "Pow", x, ok, 0, 0, n)
	}
	for _, n := range []int{-1, -2, -3, -8, -254, -255, -256, -510, -1000, -(255 << 40), math.MinInt32, -math.MaxUint32, math.MinInt64 + 128, math.MinInt64 + 1, math.MinInt64} {
		x, ok := Pow(0, n)
		checkNone(t, "Pow", x, ok, 0, n)
	}
}

// P5.3: the field.

// products returns Mul of all pairs of elements.
func products() *[256][256]byte {
	var table [256][256]byte
	for _, a := range elements() {
		for _, b := range elements() {
			table[a][b] = Mul(a, b)
		}
	}
	return &table
}

func TestBothOperationsAreCommutative(t *testing.T) {
	for _, a := range elements() {
		for _, b := range elements() {
			check(t, "Add in both orders", Add(a, b), Add(b, a), int(a), int(b))
			check(t, "Mul in both orders", Mul(a, b), Mul(b, a), int(a), int(b))
		}
	}
}

func TestBothOperationsAreAssociativeAndDistributive(t *testing.T) {
	product := products()
	for _, a := range elements() {
		for _, b := range elements() {
			for _, c := range elements() {
				if Add(Add(a, b), c) != Add(a, Add(b, c)) {
					t.Errorf("Add of %d, %d and %d is not associative", a, b, c)
				}
				if product[product[a][b]][c] != product[a][product[b][c]] {
					t.Errorf("Mul of %d, %d and %d is not associative", a, b, c)
				}
				if product[a][Add(b, c)] != Add(product[a][b], product[a][c]) {
					t.Errorf("Mul of %d does not distribute over Add of %d and %d", a, b, c)
				}
			}
		}
	}
}

func TestZeroAndOneAreNeutral(t *testing.T) {
	for _, a := range elements() {
		check(t, "Add of 0", Add(a, 0), a, int(a))
		check(t, "Add to 0", Add(0, a), a, int(a))
		check(t, "Mul by 1", Mul(a, 1), a, int(a))
		check(t, "Mul of 1", Mul(1, a), a, int(a))
		check(t, "Mul by 0", Mul(a, 0), 0, int(a))
		check(t, "Mul of 0", Mul(0, a), 0, int(a))
	}
}

func TestEveryElementIsItsOwnNegative(t *testing.T) {
	for _, a := range elements() {
		for _, b := range elements() {
			if (Add(a, b) == 0) != (a == b) {
				t.Errorf("Add of %d and %d = %d", a, b, Add(a, b))
			}
		}
	}
}

func TestEveryNonzeroElementHasAnInverse(t *testing.T) {
	for _, a := range elements()[1:] {
		x, ok := Inv(a)
		checkOf(t, "Mul by Inv", Mul(a, x), ok, 1, int(a))
		back, ok := Inv(x)
		checkOf(t, "Inv of Inv", back, ok, a, int(a))
		unit, ok := Div(a, a)
		checkOf(t, "Div by itself", unit, ok, 1, int(a))
	}
}

func TestExpTurnsSumsIntoProducts(t *testing.T) {
	for m := -300; m <= 300; m++ {
		for n := -300; n <= 300; n++ {
			check(t, "Exp of a sum", Exp(m+n), Mul(Exp(m), Exp(n)), m, n)
		}
	}
	for _, m := range []int{math.MinInt64, math.MinInt64 + 1, -(1 << 40), -1, 0} {
		for _, n := range []int{0, 1, 254, 255, 1 << 40, math.MaxInt64 - 1, math.MaxInt64} {
			check(t, "Exp of a sum", Exp(m+n), Mul(Exp(m), Exp(n)), m, n)
		}
	}
}

func TestLogTurnsProductsIntoSums(t *testing.T) {
	for _, a := range elements()[1:] {
		for _, b := range elements()[1:] {
			m, _ := Log(a)
			n, _ := Log(b)
			check(t, "Exp of the sum of Log", Exp(m+n), Mul(a, b), int(a), int(b))
			quotient, ok := Div(a, b)
			checkOf(t, "Div", quotient, ok, Exp(m-n), int(a), int(b))
		}
	}
}

func TestPowTurnsSumsIntoProducts(t *testing.T) {
	for _, a := range elements()[1:] {
		for _, m := range []int{-1000, -256, -255, -2, -1, 0, 1, 2, 3, 128, 254, 255, 1 << 40} {
			for _, n := range []int{-(1 << 40), -300, -7, 0, 1, 5, 254, 1000} {
				x, _ := Pow(a, m)
				y, _ := Pow(a, n)
				sum, ok := Pow(a, m+n)
				checkOf(t, "Pow of a sum", sum, ok, Mul(x, y), int(a), m, n)
			}
		}
	}
}

func TestSquaringIsAdditive(t *testing.T) {
	for _, a := range elements() {
		for _, b := range elements() {
			sum := Add(a, b)
			check(t, "the square of a sum", Mul(sum, sum), Add(Mul(a, a), Mul(b, b)), int(a), int(b))
			x, _ := Pow(a, 2)
			y, _ := Pow(b, 2)
			square, ok := Pow(sum, 2)
			checkOf(t, "the square of a sum", square, ok, Add(x, y), int(a), int(b))
		}
	}
}
