package gfpoly

import (
	"bytes"
	"math/rand/v2"
	"slices"
	"testing"

	"stele/api"
)

// polynomial is x^8 + x^4 + x^3 + x^2 + 1.
const polynomial = 285

// products contains the product of each two elements of the field.
var products = func() *[256][256]byte {
	var table [256][256]byte
	for a := range 256 {
		multiple := a
		for bit := range 8 {
			for b := range 256 {
				if b>>bit&1 == 1 {
					table[a][b] ^= byte(multiple)
				}
			}
			multiple *= 2
			if multiple > 255 {
				multiple ^= polynomial
			}
		}
	}
	return &table
}()

func otherTrim(p []byte) []byte {
	return bytes.TrimRight(p, "\x00")
}

// coefficient returns the coefficient of x^i, which is 0 beyond the slice.
func coefficient(p []byte, i int) byte {
	if i < 0 || i >= len(p) {
		return 0
	}
	return p[i]
}

func otherAdd(p, q []byte) []byte {
	var sum []byte
	for i := range len(p) + len(q) {
		sum = append(sum, coefficient(p, i)^coefficient(q, i))
	}
	return otherTrim(sum)
}

// otherMul computes the coefficients of the product one after the other.
func otherMul(p, q []byte) []byte {
	var product []byte
	for n := range len(p) + len(q) {
		var c byte
		for i := range n + 1 {
			c ^= products[coefficient(p, i)][coefficient(q, n-i)]
		}
		product = append(product, c)
	}
	return otherTrim(product)
}

// otherEval sums up the terms from degree 0 upwards.
func otherEval(p []byte, x byte) byte {
	var value byte
	power := byte(1)
	for _, c := range p {
		value ^= products[c][power]
		power = products[power][x]
	}
	return value
}

// otherDerivative sums up i copies of the coefficient of x^i.
func otherDerivative(p []byte) []byte {
	var derivative []byte
	for i := 1; i < len(p); i++ {
		var c byte
		for range i {
			c ^= p[i]
		}
		derivative = append(derivative, c)
	}
	return otherTrim(derivative)
}

// otherInterpolate sums up Lagrange's polynomials: each has the value of one point there, and 0 at all others.
func otherInterpolate(xs, ys []byte) []byte {
	var sum []byte
	for i := range xs {
		term := []byte{1}
		for j := range xs {
			if j != i {
				term = otherMul(term, []byte{xs[j], 1})
			}
		}
		at := otherEval(term, xs[i])
		for factor := range 256 {
			if products[factor][at] == ys[i] {
				sum = otherAdd(sum, otherMul(term, []byte{byte(factor)}))
			}
		}
	}
	return sum
}

// words returns all polynomials over the alphabet with at most max coefficients.
func words(alphabet []byte, max int) [][]byte {
	all := [][]byte{nil}
	last := all
	for range max {
		var next [][]byte
		for _, w := range last {
			for _, c := range alphabet {
				next = append(next, append(slices.Clone(w), c))
			}
		}
		all = append(all, next...)
		last = next
	}
	return all
}

func random() *rand.Rand {
	return rand.New(rand.NewPCG(6, 256))
}

func randomPolynomial(r *rand.Rand, length int) []byte {
	p := make([]byte, length)
	for i := range p {
		p[i] = byte(r.Uint32())
	}
	return p
}

// longPolynomials returns polynomials of many lengths, of which some have zeros at the end, in between, or everywhere.
func longPolynomials() [][]byte {
	r := random()
	var l [][]byte
	for _, length := range []int{3, 4, 5, 7, 8, 9, 16, 31, 44, 52, 64, 65} {
		p := randomPolynomial(r, length)
		gap := slices.Clone(p)
		clear(gap[1 : length-1])
		l = append(l, p, gap, make([]byte, length), append(slices.Clone(p), 0), append(slices.Clone(p), make([]byte, length)...), append(make([]byte, length), p...))
	}
	return append(l, randomPolynomial(r, 255), randomPolynomial(r, 256), bytes.Repeat([]byte{255}, 257))
}

// polynomials returns short and long polynomials.
func polynomials() [][]byte {
	return append(words([]byte{0, 1, 2, 0x80, 0xff}, 2), append(words([]byte{0, 1, 0x8e}, 4), longPolynomials()...)...)
}

// fewPolynomials returns so few polynomials that all triples of them can be tested.
func fewPolynomials() [][]byte {
	l := words([]byte{0, 1, 0x8e}, 2)
	r := random()
	for _, length := range []int{3, 4, 6, 9, 20} {
		p := randomPolynomial(r, length)
		l = append(l, p, append(slices.Clone(p), 0, 0))
	}
	return l
}

// elements returns all bytes.
func elements() []byte {
	l := make([]byte, 256)
	for i := range l {
		l[i] = byte(i)
	}
	return l
}

func check(t *testing.T, what string, got, want []byte, arguments ...[]byte) {
	t.Helper()
	if !bytes.Equal(got, want) {
		t.Errorf("%s of %v = %v, want %v", what, arguments, got, want)
	}
}

func checkValue(t *testing.T, what string, got, want byte, x byte, arguments ...[]byte) {
	t.Helper()
	if got != want {
		t.Errorf("%s of %v at %d = %d, want %d", what, arguments, x, got, want)
	}
}

// P6.1: Trim.

func TestTrimExamples(t *testing.T) {
	for _, c := range []struct{ p, want []byte }{
		{nil, nil}, {[]byte{}, nil}, {[]byte{0}, nil}, {[]byte{0, 0, 0}, nil}, {[]byte{7}, []byte{7}}, {[]byte{0, 7, 0}, []byte{0, 7}}, {[]byte{7, 0, 0, 0}, []byte{7}},
		{[]byte{0, 0, 1}, []byte{0, 0, 1}}, {[]byte{1, 0, 1, 0}, []byte{1, 0, 1}}, {[]byte{0x80, 0}, []byte{0x80}}, {[]byte{0, 0xff}, []byte{0, 0xff}},
	} {
		check(t, "Trim", Trim(c.p), c.want, c.p)
	}
}

func TestTrim(t *testing.T) {
	for _, p := range append(words([]byte{0, 1, 0xff}, 6), longPolynomials()...) {
		check(t, "Trim", Trim(p), otherTrim(p), p)
		check(t, "Trim of Trim", Trim(Trim(p)), otherTrim(p), p)
	}
	for _, a := range elements()[1:] {
		check(t, "Trim", Trim([]byte{0, a}), []byte{0, a}, []byte{0, a})
		check(t, "Trim", Trim([]byte{a, 0}), []byte{a}, []byte{a, 0})
	}
}

func TestTrimOfManyZeros(t *testing.T) {
	p := make([]byte, 1<<20)
	check(t, "Trim of zeros", Trim(p), nil)
	p[12345] = 9
	check(t, "Trim with many zeros", Trim(p), p[:12346])
}

// P6.1: Add.

func TestAddExamples(t *testing.T) {
	for _, c := range []struct{ p, q, want []byte }{
		{nil, nil, nil}, {nil, []byte{5, 0, 0}, []byte{5}}, {[]byte{1, 1}, []byte{1, 1}, nil}, {[]byte{2}, []byte{0, 3}, []byte{2, 3}}, {[]byte{0, 0}, []byte{0}, nil},
		{[]byte{1, 2, 3}, []byte{4, 5, 3}, []byte{5, 7}}, {[]byte{1, 2, 3}, []byte{0, 2, 3}, []byte{1}}, {[]byte{1, 2, 3, 0}, []byte{1, 2, 3}, nil},
		{[]byte{0xf0}, []byte{0x0f, 0, 0, 1, 0}, []byte{0xff, 0, 0, 1}}, {[]byte{1, 2}, []byte{1, 2, 0, 0, 9}, []byte{0, 0, 0, 0, 9}},
	} {
		check(t, "Add", Add(c.p, c.q), c.want, c.p, c.q)
		check(t, "Add", Add(c.q, c.p), c.want, c.q, c.p)
	}
}

func TestAdd(t *testing.T) {
	for _, p := range polynomials() {
		for _, q := range polynomials() {
			check(t, "Add", Add(p, q), otherAdd(p, q), p, q)
		}
	}
}

// P6.1: Mul.

func TestMulExamples(t *testing.T) {
	for _, c := range []struct{ p, q, want []byte }{
		{[]byte{1, 1}, []byte{1, 1}, []byte{1, 0, 1}}, {nil, nil, nil}, {nil, []byte{1, 2}, nil}, {[]byte{0, 0}, []byte{1, 2}, nil}, {[]byte{1}, []byte{1, 2, 0}, []byte{1, 2}},
		{[]byte{2}, []byte{0, 3}, []byte{0, 6}}, {[]byte{2}, []byte{128}, []byte{29}}, {[]byte{0, 2}, []byte{0, 0, 128}, []byte{0, 0, 0, 29}}, {[]byte{1, 1}, []byte{2, 1}, []byte{2, 3, 1}},
		{[]byte{1, 2, 3}, []byte{4, 5, 6}, []byte{4, 13, 0, 3, 10}}, {[]byte{0, 1, 0}, []byte{7, 0, 9, 0, 0}, []byte{0, 7, 0, 9}},
	} {
		check(t, "Mul", Mul(c.p, c.q), c.want, c.p, c.q)
		check(t, "Mul", Mul(c.q, c.p), c.want, c.q, c.p)
	}
}

func TestMul(t *testing.T) {
	for _, p := range words([]byte{0, 1, 2, 0x80, 0xff}, 3) {
		for _, q := range words([]byte{0, 1, 2, 0x80, 0xff}, 3) {
			check(t, "Mul", Mul(p, q), otherMul(p, q), p, q)
		}
	}
	for _, p := range longPolynomials() {
		for _, q := range append(fewPolynomials(), randomPolynomial(random(), 77)) {
			check(t, "Mul", Mul(p, q), otherMul(p, q), p, q)
			check(t, "Mul", Mul(q, p), otherMul(p, q), q, p)
		}
	}
}

func TestMulOfConstants(t *testing.T) {
	for _, a := range elements() {
		for _, b := range elements() {
			check(t, "Mul", Mul([]byte{a}, []byte{b}), otherTrim([]byte{products[a][b]}), []byte{a}, []byte{b})
		}
	}
}

// P6.1: DivMod.

func checkDivMod(t *testing.T, p, q, wantQuotient, wantRemainder []byte) {
	t.Helper()
	d, r, ok := DivMod(p, q)
	if !ok || !bytes.Equal(d, wantQuotient) || !bytes.Equal(r, wantRemainder) {
		t.Errorf("DivMod of %v and %v = %v, %v, %t, want %v, %v, true", p, q, d, r, ok, wantQuotient, wantRemainder)
	}
}

func TestDivModExamples(t *testing.T) {
	for _, c := range []struct{ p, q, d, r []byte }{
		{[]byte{1, 0, 1}, []byte{1, 1}, []byte{1, 1}, nil}, {[]byte{5, 0, 1}, []byte{1, 1}, []byte{1, 1}, []byte{4}}, {[]byte{5}, []byte{0, 1}, nil, []byte{5}},
		{[]byte{6, 4}, []byte{2, 0}, []byte{3, 2}, nil}, {nil, []byte{1}, nil, nil}, {nil, []byte{0, 0, 9, 0}, nil, nil}, {[]byte{0, 0, 0}, []byte{3, 1}, nil, nil},
		{[]byte{1, 2, 3, 0}, []byte{1}, []byte{1, 2, 3}, nil}, {[]byte{29, 0}, []byte{128}, []byte{2}, nil}, {[]byte{1}, []byte{2}, []byte{142}, nil},
		{[]byte{7, 8, 9}, []byte{0, 0, 0, 1}, nil, []byte{7, 8, 9}}, {[]byte{7, 8, 0, 0}, []byte{0, 0, 5}, nil, []byte{7, 8}}, {[]byte{7, 8, 9}, []byte{0, 1, 0, 0}, []byte{8, 9}, []byte{7}},
		{[]byte{7, 0, 9}, []byte{0, 0, 1}, []byte{9}, []byte{7}}, {[]byte{1, 2, 3}, []byte{1, 2, 3}, []byte{1}, nil}, {[]byte{0, 0, 0, 0, 1}, []byte{0, 2}, []byte{0, 0, 0, 142}, nil},
	} {
		checkDivMod(t, c.p, c.q, c.d, c.r)
	}
}

// The quotient and the remainder are unique, so division reverses multiplication and addition.
func TestDivMod(t *testing.T) {
	for _, q := range polynomials() {
		if len(otherTrim(q)) == 0 {
			continue
		}
		for _, d := range fewPolynomials() {
			for _, p := range [][]byte{nil, {1}, {0, 0, 0xff}, d, randomPolynomial(random(), len(q))} {
				remainder := p[:min(len(p), len(otherTrim(q))-1)]
				checkDivMod(t, otherAdd(otherMul(d, q), remainder), q, otherTrim(d), otherTrim(remainder))
			}
		}
	}
}

func TestDivModByConstants(t *testing.T) {
	p := []byte{0, 1, 2, 128, 255, 77}
	for _, a := range elements()[1:] {
		checkDivMod(t, otherMul(p, []byte{a}), []byte{a}, p, nil)
	}
}

func TestNothingIsDividedByZero(t *testing.T) {
	for _, p := range polynomials() {
		for _, q := range [][]byte{nil, {}, {0}, {0, 0}, make([]byte, 300)} {
			if d, r, ok := DivMod(p, q); ok || len(d) != 0 || len(r) != 0 {
				t.Errorf("DivMod of %v and %v = %v, %v, %t", p, q, d, r, ok)
			}
		}
	}
}

// P6.1: Eval.

func TestEvalExamples(t *testing.T) {
	for _, c := range []struct {
		p       []byte
		x, want byte
	}{
		{nil, 0, 0}, {nil, 9, 0}, {[]byte{0, 0}, 9, 0}, {[]byte{7}, 9, 7}, {[]byte{7, 1}, 0, 7}, {[]byte{7, 1, 5}, 1, 3}, {[]byte{1, 2, 3}, 2, 9}, {[]byte{0, 1}, 200, 200},
		{[]byte{0, 0, 1}, 16, 29}, {[]byte{0, 128, 0}, 2, 29}, {[]byte{2, 3, 1}, 1, 0}, {[]byte{2, 3, 1}, 2, 0}, {[]byte{2, 3, 1}, 3, 2},
	} {
		checkValue(t, "Eval", Eval(c.p, c.x), c.want, c.x, c.p)
	}
}

func TestEval(t *testing.T) {
	for _, p := range polynomials() {
		for _, x := range elements() {
			checkValue(t, "Eval", Eval(p, x), otherEval(p, x), x, p)
		}
	}
}

// P6.1: Derivative.

func TestDerivativeExamples(t *testing.T) {
	for _, c := range []struct{ p, want []byte }{
		{nil, nil}, {[]byte{0}, nil}, {[]byte{9}, nil}, {[]byte{9, 8}, []byte{8}}, {[]byte{9, 0}, nil}, {[]byte{9, 8, 7}, []byte{8}}, {[]byte{9, 0, 7}, nil}, {[]byte{9, 8, 7, 6}, []byte{8, 0, 6}},
		{[]byte{9, 0, 7, 6}, []byte{0, 0, 6}}, {[]byte{0, 0, 0, 0, 1}, nil}, {[]byte{0, 0, 0, 0, 0, 1}, []byte{0, 0, 0, 0, 1}}, {[]byte{1, 2, 3, 4, 0, 0, 0}, []byte{2, 0, 4}},
	} {
		check(t, "Derivative", Derivative(c.p), c.want, c.p)
	}
}

func TestDerivative(t *testing.T) {
	for _, p := range append(words([]byte{0, 1, 0xff}, 6), polynomials()...) {
		check(t, "Derivative", Derivative(p), otherDerivative(p), p)
	}
}

// P6.1 and P6.4: Interpolate.

func checkInterpolate(t *testing.T, xs, ys, want []byte) {
	t.Helper()
	p, e := Interpolate(xs, ys)
	if e != api.OK || !bytes.Equal(p, want) {
		t.Errorf("Interpolate of %v and %v = %v, %d, want %v, 0", xs, ys, p, e, want)
	}
}

func checkNoPolynomial(t *testing.T, xs, ys []byte, want api.Errno) {
	t.Helper()
	p, e := Interpolate(xs, ys)
	if e != want || len(p) != 0 {
		t.Errorf("Interpolate of %v and %v = %v, %d, want nothing, %d", xs, ys, p, e, want)
	}
}

func TestInterpolateExamples(t *testing.T) {
	for _, c := range []struct{ xs, ys, want []byte }{
		{nil, nil, nil}, {[]byte{}, nil, nil}, {[]byte{9}, []byte{0}, nil}, {[]byte{9}, []byte{4}, []byte{4}}, {[]byte{0}, []byte{255}, []byte{255}}, {[]byte{0, 1}, []byte{5, 5}, []byte{5}},
		{[]byte{0, 1}, []byte{5, 4}, []byte{5, 1}}, {[]byte{1, 0}, []byte{4, 5}, []byte{5, 1}}, {[]byte{0, 1, 2}, []byte{1, 0, 5}, []byte{1, 0, 1}}, {[]byte{0, 2}, []byte{0, 29}, []byte{0, 128}},
		{[]byte{1, 2, 3}, []byte{0, 0, 2}, []byte{2, 3, 1}}, {[]byte{3, 2, 1}, []byte{0, 0, 0}, nil}, {[]byte{200, 7, 255}, []byte{200, 7, 255}, []byte{0, 1}},
	} {
		checkInterpolate(t, c.xs, c.ys, c.want)
	}
}

func TestInterpolateAtAllPairsOfElements(t *testing.T) {
	for _, a := range elements() {
		for _, b := range elements() {
			if a != b {
				checkInterpolate(t, []byte{a, b}, []byte{a, b}, []byte{0, 1})
				checkInterpolate(t, []byte{a, b}, []byte{77, 77}, []byte{77})
			}
		}
	}
}

// shuffled returns some elements, no two of which are equal.
func shuffled(r *rand.Rand, length int) []byte {
	l := elements()
	r.Shuffle(256, func(i, j int) { l[i], l[j] = l[j], l[i] })
	return l[:length]
}

func TestInterpolateHasTheGivenValues(t *testing.T) {
	r := random()
	for length := range 257 {
		xs, ys := shuffled(r, length), randomPolynomial(r, length)
		p, e := Interpolate(xs, ys)
		if e != api.OK || len(p) > length || !bytes.Equal(p, otherTrim(p)) {
			t.Errorf("Interpolate of %v and %v = %v, %d", xs, ys, p, e)
		}
		for i := range xs {
			checkValue(t, "Eval of Interpolate", otherEval(p, xs[i]), ys[i], xs[i], xs, ys)
			checkValue(t, "Eval of Interpolate", Eval(p, xs[i]), ys[i], xs[i], xs, ys)
		}
	}
}

func TestInterpolateIsTheSumOfTerms(t *testing.T) {
	r := random()
	for length := range 24 {
		xs, ys := shuffled(r, length), randomPolynomial(r, length)
		checkInterpolate(t, xs, ys, otherInterpolate(xs, ys))
	}
}

func TestAPolynomialIsRecoveredFromItsValues(t *testing.T) {
	r := random()
	for _, p := range polynomials() {
		least := len(otherTrim(p))
		for _, length := range []int{least, least + 1, least + 20, 255, 256} {
			if length > 256 || length < least {
				continue
			}
			xs := shuffled(r, length)
			ys := make([]byte, length)
			for i, x := range xs {
				ys[i] = otherEval(p, x)
			}
			checkInterpolate(t, xs, ys, otherTrim(p))
		}
	}
}

func TestTheOrderOfThePointsDoesNotMatter(t *testing.T) {
	r := random()
	for length := range 40 {
		xs, ys := shuffled(r, length), randomPolynomial(r, length)
		want, _ := Interpolate(xs, ys)
		r.Shuffle(length, func(i, j int) {
			xs[i], xs[j] = xs[j], xs[i]
			ys[i], ys[j] = ys[j], ys[i]
		})
		checkInterpolate(t, xs, ys, want)
	}
}

func TestInterpolateOfDifferentLengths(t *testing.T) {
	for _, c := range []struct{ xs, ys []byte }{
		{nil, []byte{0}}, {[]byte{0}, nil}, {[]byte{1, 2}, []byte{1}}, {[]byte{1}, []byte{1, 2}}, {[]byte{1, 2}, []byte{1, 2, 0}}, {elements(), make([]byte, 257)}, {make([]byte, 1000), nil},
		// Equal elements are the later one of the two errors.
		{[]byte{1, 1}, []byte{2}}, {[]byte{1, 1}, []byte{2, 2, 2}}, {[]byte{0, 0, 0}, nil},
	} {
		checkNoPolynomial(t, c.xs, c.ys, api.ErrArgument)
	}
}

func TestInterpolateOfEqualElements(t *testing.T) {
	for _, c := range []struct{ xs, ys []byte }{
		{[]byte{1, 1}, []byte{2, 3}}, {[]byte{1, 1}, []byte{2, 2}}, {[]byte{0, 0}, []byte{0, 0}}, {[]byte{0, 0}, []byte{0, 1}}, {[]byte{1, 2, 1}, []byte{2, 3, 2}},
		{[]byte{1, 2, 2}, []byte{0, 0, 0}}, {[]byte{255, 7, 9, 255}, []byte{1, 2, 3, 4}}, {make([]byte, 1000), make([]byte, 1000)}, {append(elements(), 255), make([]byte, 257)},
	} {
		checkNoPolynomial(t, c.xs, c.ys, api.ErrExists)
	}
}

func TestInterpolateLooksAtEveryPairOfElements(t *testing.T) {
	xs := shuffled(random(), 20)
	for i := range xs {
		for j := range i {
			equal := slices.Clone(xs)
			equal[i] = equal[j]
			// A polynomial of a smaller degree passes through these points nevertheless.
			checkNoPolynomial(t, equal, equal, api.ErrExists)
			checkNoPolynomial(t, equal, make([]byte, len(equal)), api.ErrExists)
			checkNoPolynomial(t, equal, randomPolynomial(random(), len(equal)), api.ErrExists)
		}
	}
}

// P6.1: all functions accept slices that are not trimmed, return trimmed ones, and do not modify their arguments.

// results returns what the functions return for two polynomials.
func results(p, q []byte) [][]byte {
	d, r, _ := DivMod(p, q)
	l := [][]byte{Trim(p), Add(p, q), Mul(p, q), d, r, Derivative(p)}
	interpolated, _ := Interpolate(shuffled(random(), len(p)), p)
	return append(l, interpolated)
}

func TestResultsAreTrimmed(t *testing.T) {
	for _, p := range fewPolynomials() {
		for _, q := range polynomials() {
			for i, result := range append(results(p, q), Add(q, p), Mul(q, p), Derivative(q)) {
				if !bytes.Equal(result, otherTrim(result)) {
					t.Errorf("result %d of %v and %v = %v is not trimmed", i, p, q, result)
				}
			}
		}
	}
}

func TestZerosAtTheEndDoNotMatter(t *testing.T) {
	for _, p := range fewPolynomials() {
		for _, q := range fewPolynomials() {
			for zeros := range 4 {
				longP, longQ := append(slices.Clone(p), make([]byte, zeros)...), append(slices.Clone(q), make([]byte, 2*zeros)...)
				check(t, "Add", Add(longP, longQ), Add(p, q), longP, longQ)
				check(t, "Mul", Mul(longP, longQ), Mul(p, q), longP, longQ)
				check(t, "Derivative", Derivative(longP), Derivative(p), longP)
				checkValue(t, "Eval", Eval(longP, 77), Eval(p, 77), 77, longP)
				if d, r, ok := DivMod(p, q); ok {
					checkDivMod(t, longP, longQ, d, r)
				}
			}
		}
	}
}

func TestArgumentsAreNotModified(t *testing.T) {
	for _, p := range append(fewPolynomials(), elements()) {
		for _, q := range fewPolynomials() {
			keptP, keptQ := slices.Clone(p), slices.Clone(q)
			// The arguments have room behind them, which does not belong to the functions either.
			whole := append(slices.Clone(p), 1, 2, 3)
			roomy := whole[:len(p)]
			for _, result := range append(results(roomy, q), results(p, roomy)...) {
				for i := range result {
					result[i] ^= 0xff
				}
			}
			Eval(roomy, 3)
			check(t, "the first argument after all calls", p, keptP)
			check(t, "the second argument after all calls", q, keptQ)
			check(t, "an argument and what is behind it", whole, append(keptP, 1, 2, 3))
		}
	}
	xs, ys := []byte{3, 1, 2, 3}, []byte{9, 8, 7, 6}
	for length := range 5 {
		p, _ := Interpolate(xs[:length], ys[:length])
		for i := range p {
			p[i] ^= 0xff
		}
	}
	check(t, "the elements after all calls", xs, []byte{3, 1, 2, 3})
	check(t, "the values after all calls", ys, []byte{9, 8, 7, 6})
}

func TestResultsShareNoMemory(t *testing.T) {
	p, q := []byte{1, 2, 3, 4, 5, 6}, []byte{7, 8, 9}
	d, r, _ := DivMod(p, q)
	keptR := slices.Clone(r)
	for i := range d[:cap(d)] {
		d[:cap(d)][i] ^= 0xff
	}
	check(t, "the remainder after the quotient has changed", r, keptR)
	keptD := slices.Clone(d)
	for i := range r[:cap(r)] {
		r[:cap(r)][i] ^= 0xff
	}
	check(t, "the quotient after the remainder has changed", d, keptD)
}

func TestOnePolynomialInBothPlaces(t *testing.T) {
	for _, p := range polynomials() {
		check(t, "Add", Add(p, p), nil, p)
		check(t, "Mul", Mul(p, p), otherMul(p, p), p)
		if len(otherTrim(p)) > 0 {
			checkDivMod(t, p, p, []byte{1}, nil)
		}
	}
	checkInterpolate(t, elements(), elements(), []byte{0, 1})
}

// P6.2: the ring.

func TestBothOperationsAreCommutative(t *testing.T) {
	for _, p := range polynomials() {
		for _, q := range fewPolynomials() {
			check(t, "Add in both orders", Add(p, q), Add(q, p), p, q)
			check(t, "Mul in both orders", Mul(p, q), Mul(q, p), p, q)
		}
	}
}

func TestBothOperationsAreAssociativeAndDistributive(t *testing.T) {
	l := fewPolynomials()
	for _, p := range l {
		for _, q := range l {
			for _, r := range l {
				check(t, "Add in two steps", Add(Add(p, q), r), Add(p, Add(q, r)), p, q, r)
				check(t, "Mul in two steps", Mul(Mul(p, q), r), Mul(p, Mul(q, r)), p, q, r)
				check(t, "Mul of a sum", Mul(p, Add(q, r)), Add(Mul(p, q), Mul(p, r)), p, q, r)
			}
		}
	}
}

func TestNeutralPolynomialsAndNegatives(t *testing.T) {
	for _, p := range polynomials() {
		check(t, "Add of zero", Add(p, nil), otherTrim(p), p)
		check(t, "Mul by one", Mul(p, []byte{1}), otherTrim(p), p)
		check(t, "Mul by zero", Mul(p, []byte{0}), nil, p)
		check(t, "Mul by x", Mul(p, []byte{0, 1}), otherTrim(append([]byte{0}, p...)), p)
		check(t, "Add to itself", Add(p, p), nil, p)
	}
}

func TestDivisionSatisfiesItsEquation(t *testing.T) {
	for _, p := range polynomials() {
		for _, q := range polynomials() {
			divisor := otherTrim(q)
			if len(divisor) == 0 {
				continue
			}
			d, r, ok := DivMod(p, q)
			if !ok || len(r) >= len(divisor) {
				t.Errorf("DivMod of %v and %v = %v, %v, %t", p, q, d, r, ok)
			}
			check(t, "the quotient times the divisor, plus the remainder,", Add(Mul(d, q), r), otherTrim(p), p, q)
		}
	}
}

// P6.3: evaluation and derivatives.

func TestEvaluationIsAHomomorphism(t *testing.T) {
	for _, p := range append(longPolynomials(), fewPolynomials()...) {
		for _, q := range fewPolynomials() {
			sum, product := Add(p, q), Mul(p, q)
			for _, x := range elements() {
				a, b := Eval(p, x), Eval(q, x)
				checkValue(t, "Eval of Add", Eval(sum, x), a^b, x, p, q)
				checkValue(t, "Eval of Mul", Eval(product, x), products[a][b], x, p, q)
			}
		}
	}
	for _, x := range elements() {
		checkValue(t, "Eval of one", Eval([]byte{1}, x), 1, x)
		checkValue(t, "Eval of zero", Eval(nil, x), 0, x)
	}
}

func TestTheRemainderByALinearPolynomialIsTheValue(t *testing.T) {
	for _, p := range polynomials() {
		for _, x := range []byte{0, 1, 2, 3, 142, 255} {
			_, r, ok := DivMod(p, []byte{x, 1})
			if !ok {
				t.Errorf("nothing remains of %v", p)
			}
			check(t, "the remainder", r, otherTrim([]byte{Eval(p, x)}), p, []byte{x, 1})
		}
	}
}

func TestTheDerivativeSatisfiesTheSumAndProductRules(t *testing.T) {
	for _, p := range polynomials() {
		for _, q := range fewPolynomials() {
			check(t, "Derivative of a sum", Derivative(Add(p, q)), Add(Derivative(p), Derivative(q)), p, q)
			want := Add(Mul(Derivative(p), q), Mul(p, Derivative(q)))
			check(t, "Derivative of a product", Derivative(Mul(p, q)), want, p, q)
		}
	}
}
