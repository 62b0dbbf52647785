package gauss_test

import (
	"hanaper/gauss"
	"math"
	"math/big"
	"strconv"
	"testing"
)

const p = 8191

// pair is a number as two ints, which the tests reckon with by themselves.
type pair struct{ re, im int }

// mod is n modulo p, from 0 on.
func mod(n int) int {
	return int(new(big.Int).Mod(big.NewInt(int64(n)), big.NewInt(p)).Int64())
}

func (a pair) plus(b pair) pair  { return pair{mod(a.re + b.re), mod(a.im + b.im)} }
func (a pair) minus(b pair) pair { return pair{mod(a.re - b.re), mod(a.im - b.im)} }
func (a pair) times(b pair) pair {
	return pair{mod(a.re*b.re - a.im*b.im), mod(a.re*b.im + a.im*b.re)}
}

// power is the product of n of a, one by one.
func (a pair) power(n int) pair {
	z := pair{1, 0}
	for range n {
		z = z.times(a)
	}
	return z
}

func (a pair) of() complex128 { return gauss.Of(a.re, a.im) }

func (a pair) told() string { return strconv.Itoa(a.re) + " + " + strconv.Itoa(a.im) + "i" }

// same holds a number against the one that the document asks, its parts one by one.
func same(t *testing.T, what string, got complex128, want pair) {
	t.Helper()
	if got != complex(float64(want.re), float64(want.im)) {
		t.Errorf("%s: %v, not %s", what, got, want.told())
	}
	if math.Signbit(real(got)) || math.Signbit(imag(got)) {
		t.Errorf("%s: %v has a part below 0", what, got)
	}
	if re, im := gauss.Parts(got); re != want.re || im != want.im {
		t.Errorf("%s: parts %d and %d, not %s", what, re, im, want.told())
	}
}

// edges are parts from 0 to p - 1.
func edges() []int {
	return []int{0, 1, 2, 3, 90, 91, 4095, 4096, 4097, 8188, 8189, 8190}
}

// ints are parts of all sizes, with what they are modulo p.
func ints() map[int]int {
	return map[int]int{
		0: 0, 1: 1, 8190: 8190, 8191: 0, 8192: 1, 16381: 8190, 16382: 0, 16383: 1,
		-1: 8190, -2: 8189, -8190: 1, -8191: 0, -8192: 8190, -16382: 0, -16383: 8190,
		1 << 26: 1, 1<<26 - 1: 0, 1 << 53: 2, 1<<53 + 1: 3, 1 << 62: 1024, -1 << 62: 7167, // 2^13 leaves 1
		math.MaxInt: 2047, math.MaxInt - 1: 2046, math.MaxInt - 2047: 0, math.MaxInt - 2048: 8190,
		math.MinInt: 6143, math.MinInt + 1: 6144, math.MinInt + 2048: 0, math.MinInt + 2047: 8190,
	}
}

// numbers are all whose parts are edges, and some besides.
func numbers() []pair {
	var all []pair
	for _, re := range edges() {
		for _, im := range edges() {
			all = append(all, pair{re, im})
		}
	}
	for i := range 60 {
		all = append(all, pair{mod(i*i*577 + i*31 + 17), mod(i*i*i*11 + i*4001 + 5)})
	}
	return all
}

// few are some of the numbers, 0 and 1 among them.
func few() []pair {
	return []pair{
		{0, 0}, {1, 0}, {0, 1}, {8190, 0}, {0, 8190}, {8190, 8190}, {2, 0}, {4, 1}, {4, 8190},
		{4096, 4095}, {1, 8190}, {90, 8100}, {577, 4003}, {8189, 1},
	}
}

// P3.1: Of, Parts.

func TestOfPartsOfAllSizes(t *testing.T) {
	for re, wantRe := range ints() {
		for im, wantIm := range ints() {
			same(t, "Of "+strconv.Itoa(re)+", "+strconv.Itoa(im), gauss.Of(re, im), pair{wantRe, wantIm})
		}
	}
}

func TestOfIsModuloP(t *testing.T) {
	if gauss.P != p {
		t.Fatalf("P is %d", gauss.P)
	}
	for _, start := range []int{-3 * p, -p, 0, p, 1000 * p, 1<<40 - p, -1 << 40, math.MaxInt - 2*p, math.MinInt + p} {
		for i := range 2 * p {
			re, im := start+i, start+2*p-1-i
			want := pair{mod(re), mod(im)}
			if got := gauss.Of(re, im); got != complex(float64(want.re), float64(want.im)) {
				t.Fatalf("Of %d, %d: %v, not %s", re, im, got, want.told())
			}
		}
	}
}

func TestPartsOfEachNumberOfOnePart(t *testing.T) {
	for n := range p {
		if re, im := gauss.Parts(gauss.Of(n, 0)); re != n || im != 0 {
			t.Fatalf("%d and 0: %d and %d", n, re, im)
		}
		if re, im := gauss.Parts(gauss.Of(0, n)); re != 0 || im != n {
			t.Fatalf("0 and %d: %d and %d", n, re, im)
		}
		if re, im := gauss.Parts(gauss.Of(n, p-1-n)); re != n || im != p-1-n {
			t.Fatalf("%d and %d: %d and %d", n, p-1-n, re, im)
		}
	}
	if re, im := gauss.Parts(0); re != 0 || im != 0 {
		t.Errorf("of 0: %d and %d", re, im)
	}
}

// P3.2: Add, Sub, Mul, Conj, Norm.

func TestExamples(t *testing.T) {
	same(t, "Mul of 4 + i and 4 - i", gauss.Mul(gauss.Of(4, 1), gauss.Of(4, -1)), pair{17, 0})
	two, ok := gauss.Inv(gauss.Of(2, 0))
	same(t, "Inv of 2", two, pair{4096, 0})
	if !ok {
		t.Error("Inv of 2: false")
	}
}

func TestSumsDifferencesAndProductsByHand(t *testing.T) {
	of := gauss.Of
	top := of(8190, 8190) // -1 - i
	for _, c := range []struct {
		what string
		got  complex128
		want pair
	}{
		{"2 + 3i and 5 + 7i", gauss.Add(of(2, 3), of(5, 7)), pair{7, 10}},
		{"the sum is just P", gauss.Add(of(8190, 1), of(1, 8190)), pair{0, 0}},
		{"the sum is P - 1", gauss.Add(of(8189, 4000), of(1, 4190)), pair{8190, 8190}},
		{"the sum is P + 1", gauss.Add(of(8190, 4096), of(2, 4096)), pair{1, 1}},
		{"top and top", gauss.Add(top, top), pair{8189, 8189}},
		{"5 + 7i less 2 + 3i", gauss.Sub(of(5, 7), of(2, 3)), pair{3, 4}},
		{"2 + 3i less 5 + 7i", gauss.Sub(of(2, 3), of(5, 7)), pair{8188, 8187}},
		{"0 less 1", gauss.Sub(0, 1), pair{8190, 0}},
		{"0 less top", gauss.Sub(0, top), pair{1, 1}},
		{"top less top", gauss.Sub(top, top), pair{0, 0}},
		{"2 + 3i by 5 + 7i", gauss.Mul(of(2, 3), of(5, 7)), pair{8180, 29}},
		{"i by i", gauss.Mul(of(0, 1), of(0, 1)), pair{8190, 0}},
		{"-1 by -1", gauss.Mul(of(8190, 0), of(8190, 0)), pair{1, 0}},
		{"-i by -i", gauss.Mul(of(0, 8190), of(0, 8190)), pair{8190, 0}},
		{"top by top", gauss.Mul(top, top), pair{0, 2}},
		{"top by 1 - i", gauss.Mul(top, of(1, -1)), pair{8189, 0}},
		{"91 + 90i by 91 + 90i", gauss.Mul(of(91, 90), of(91, 90)), pair{181, 8189}},
	} {
		same(t, c.what, c.got, c.want)
	}
}

func TestSumsDifferencesAndProducts(t *testing.T) {
	all := numbers()
	for _, a := range all {
		for _, b := range all {
			what := a.told() + " and " + b.told()
			same(t, "Add of "+what, gauss.Add(a.of(), b.of()), a.plus(b))
			same(t, "Sub of "+what, gauss.Sub(a.of(), b.of()), a.minus(b))
			same(t, "Mul of "+what, gauss.Mul(a.of(), b.of()), a.times(b))
		}
	}
}

func TestConj(t *testing.T) {
	for _, c := range []struct{ a, want pair }{
		{pair{0, 0}, pair{0, 0}}, {pair{1, 0}, pair{1, 0}}, {pair{8190, 0}, pair{8190, 0}},
		{pair{0, 1}, pair{0, 8190}}, {pair{0, 8190}, pair{0, 1}}, {pair{4, 1}, pair{4, 8190}},
		{pair{8190, 8190}, pair{8190, 1}}, {pair{5, 4095}, pair{5, 4096}},
	} {
		same(t, "of "+c.a.told(), gauss.Conj(c.a.of()), c.want)
	}
	for n := range p {
		same(t, "second part "+strconv.Itoa(n), gauss.Conj(gauss.Of(n, n)), pair{n, mod(-n)})
	}
}

func TestNorm(t *testing.T) {
	for _, c := range []struct {
		a    pair
		want int
	}{
		{pair{0, 0}, 0}, {pair{1, 0}, 1}, {pair{0, 1}, 1}, {pair{8190, 0}, 1}, {pair{0, 8190}, 1},
		{pair{8190, 8190}, 2}, {pair{3, 4}, 25}, {pair{4, 8190}, 17}, {pair{91, 0}, 90}, {pair{64, 64}, 1},
	} {
		if got := gauss.Norm(c.a.of()); got != c.want {
			t.Errorf("of %s: %d, not %d", c.a.told(), got, c.want)
		}
	}
	for _, a := range numbers() {
		if got, want := gauss.Norm(a.of()), mod(a.re*a.re+a.im*a.im); got != want {
			t.Errorf("of %s: %d, not %d", a.told(), got, want)
		}
	}
}

// P3.3: Inv.

// inverted is the inverse of a, and holds their product against 1.
func inverted(t *testing.T, a pair) pair {
	t.Helper()
	z, ok := gauss.Inv(a.of())
	re, im := gauss.Parts(z)
	inverse := pair{re, im}
	if !ok || inverse.times(a) != (pair{1, 0}) {
		t.Errorf("Inv of %s: %s, %v", a.told(), inverse.told(), ok)
	}
	same(t, "Inv of "+a.told(), z, inverse.plus(pair{}))
	return inverse
}

func TestInvOfZero(t *testing.T) {
	for what, zero := range map[string]complex128{
		"0": 0, "Of 0": gauss.Of(0, 0), "P": gauss.Of(p, 0), "P and -P": gauss.Of(p, -p), "a difference": gauss.Sub(gauss.Of(5, 6), gauss.Of(5, 6)),
	} {
		if z, ok := gauss.Inv(zero); z != 0 || ok {
			t.Errorf("of %s: %v, %v", what, z, ok)
		}
	}
}

func TestInvOfSome(t *testing.T) {
	for _, c := range []struct{ a, want pair }{
		{pair{1, 0}, pair{1, 0}}, {pair{8190, 0}, pair{8190, 0}}, {pair{0, 1}, pair{0, 8190}},
		{pair{0, 8190}, pair{0, 1}}, {pair{4096, 0}, pair{2, 0}}, {pair{0, 2}, pair{0, 4095}},
		{pair{1, 1}, pair{4096, 4095}}, {pair{8190, 8190}, pair{4095, 4096}},
	} {
		if got := inverted(t, c.a); got != c.want {
			t.Errorf("of %s: %s, not %s", c.a.told(), got.told(), c.want.told())
		}
	}
}

func TestInvOfMany(t *testing.T) {
	for n := 1; n < p; n++ {
		inverted(t, pair{n, 0})
		inverted(t, pair{0, n})
		inverted(t, pair{n, n})
		inverted(t, pair{n, mod(n*n + 1)})
	}
	for _, a := range numbers() {
		if a == (pair{}) {
			continue
		}
		if got := inverted(t, inverted(t, a)); got != a {
			t.Errorf("%s, turned over twice: %s", a.told(), got.told())
		}
	}
}

// P3.3: Pow.

func TestPowOfSome(t *testing.T) {
	for _, c := range []struct {
		a    pair
		n    int
		want pair
	}{
		{pair{2, 0}, 10, pair{1024, 0}}, {pair{2, 0}, 13, pair{1, 0}}, {pair{2, 0}, 14, pair{2, 0}},
		{pair{2, 0}, -1, pair{4096, 0}}, {pair{2, 0}, -2, pair{2048, 0}}, {pair{2, 0}, -13, pair{1, 0}},
		{pair{0, 1}, 2, pair{8190, 0}}, {pair{0, 1}, 3, pair{0, 8190}}, {pair{0, 1}, 4, pair{1, 0}},
		{pair{0, 1}, -1, pair{0, 8190}}, {pair{0, 1}, -3, pair{0, 1}}, {pair{4, 1}, 2, pair{15, 8}},
		{pair{4, 1}, 3, pair{52, 47}}, {pair{8190, 0}, 2, pair{1, 0}}, {pair{8190, 0}, 3, pair{8190, 0}},
	} {
		same(t, c.a.told()+" to "+strconv.Itoa(c.n), gauss.Pow(c.a.of(), c.n), c.want)
	}
}

func TestPowOneByOne(t *testing.T) {
	for _, a := range few() {
		want := pair{1, 0}
		for n := range 300 {
			same(t, a.told()+" to "+strconv.Itoa(n), gauss.Pow(a.of(), n), want)
			want = want.times(a)
		}
		if a == (pair{}) {
			continue
		}
		want = pair{1, 0}
		inverse := inverted(t, a)
		for n := range 300 {
			same(t, a.told()+" to -"+strconv.Itoa(n), gauss.Pow(a.of(), -n), want)
			want = want.times(inverse)
		}
	}
}

func TestPowOfNone(t *testing.T) {
	for _, a := range numbers() {
		same(t, a.told()+" to 0", gauss.Pow(a.of(), 0), pair{1, 0})
		same(t, a.told()+" to 1", gauss.Pow(a.of(), 1), a)
		if a != (pair{}) {
			same(t, a.told()+" to -1", gauss.Pow(a.of(), -1), inverted(t, a))
		}
	}
}

func TestPowOfZero(t *testing.T) {
	same(t, "to 0", gauss.Pow(0, 0), pair{1, 0})
	same(t, "P to 0", gauss.Pow(gauss.Of(p, -p), 0), pair{1, 0})
	for _, n := range []int{1, 2, 3, p - 1, p, p*p - 1, 1 << 40, math.MaxInt - 1, math.MaxInt} {
		same(t, "to "+strconv.Itoa(n), gauss.Pow(gauss.Of(0, 0), n), pair{})
		same(t, "to -"+strconv.Itoa(n), gauss.Pow(gauss.Of(0, 0), -n), pair{})
	}
	same(t, "to the least int", gauss.Pow(gauss.Of(0, 0), math.MinInt), pair{})
}

// There are p^2 - 1 numbers but 0, so a power hangs alone on what n leaves by that, which is few enough to reckon one by one.
func TestPowOfGreatAndLeast(t *testing.T) {
	order := big.NewInt(p*p - 1)
	for _, n := range []int{
		math.MaxInt, math.MaxInt - 1, math.MinInt, math.MinInt + 1, math.MinInt + 2,
		1 << 31, 1<<31 - 1, -1 << 31, 1 << 32, 1<<32 - 1, -1 << 32, 1<<62 + 1, -1<<62 - 1,
		p * p, p*p - 1, p*p - 2, 1 - p*p, -p * p, 2*p*p - 1,
	} {
		left := int(new(big.Int).Mod(big.NewInt(int64(n)), order).Int64())
		for _, a := range few()[1:] {
			// left is high*p + low, and a to the power p turns its second part about
			high, low := left/p, left%p
			want := pair{a.re, mod(-a.im)}.power(high).times(a.power(low))
			same(t, a.told()+" to "+strconv.Itoa(n), gauss.Pow(a.of(), n), want)
		}
	}
	same(t, "2 to the greatest int", gauss.Pow(2, math.MaxInt), pair{1 << ((1<<63 - 1) % 13), 0})
	same(t, "i to the greatest int", gauss.Pow(gauss.Of(0, 1), math.MaxInt), pair{0, 8190})
	same(t, "i to the least int", gauss.Pow(gauss.Of(0, 1), math.MinInt), pair{1, 0})
	same(t, "2 to the least int", gauss.Pow(2, math.MinInt), pair{1 << (13 - (1<<63)%13), 0})
}

// P3.4.

func TestSumsAndProductsInAnyOrder(t *testing.T) {
	add, mul := gauss.Add, gauss.Mul
	all := append(few(), numbers()[150:180]...)
	for _, x := range all {
		for _, y := range all {
			a, b := x.of(), y.of()
			what := x.told() + " and " + y.told()
			if add(a, b) != add(b, a) || mul(a, b) != mul(b, a) {
				t.Errorf("%s: turned, another sum or product", what)
			}
			for _, z := range all {
				c := z.of()
				if add(add(a, b), c) != add(a, add(b, c)) || mul(mul(a, b), c) != mul(a, mul(b, c)) {
					t.Errorf("%s and %s: put together otherwise, another sum or product", what, z.told())
				}
				if mul(a, add(b, c)) != add(mul(a, b), mul(a, c)) || mul(a, gauss.Sub(b, c)) != gauss.Sub(mul(a, b), mul(a, c)) {
					t.Errorf("%s and %s: the product of a sum is not the sum of products", what, z.told())
				}
			}
		}
	}
}

func TestWhatWasDoneIsUndone(t *testing.T) {
	all := numbers()
	for _, x := range all {
		a := x.of()
		same(t, x.told()+" and 0", gauss.Add(a, 0), x)
		same(t, x.told()+" less 0", gauss.Sub(a, 0), x)
		same(t, x.told()+" by 1", gauss.Mul(a, 1), x)
		same(t, x.told()+" by 0", gauss.Mul(a, 0), pair{})
		same(t, x.told()+", turned about twice", gauss.Conj(gauss.Conj(a)), x)
		for _, y := range all {
			b := y.of()
			what := x.told() + " and " + y.told()
			same(t, what+", added and taken off", gauss.Sub(gauss.Add(a, b), b), x)
			same(t, what+", taken off and added", gauss.Add(gauss.Sub(a, b), b), x)
			inverse, ok := gauss.Inv(b)
			if ok == (y == pair{}) {
				t.Errorf("Inv of %s: %v", y.told(), ok)
			}
			if ok {
				same(t, what+", multiplied and divided", gauss.Mul(gauss.Mul(a, b), inverse), x)
			}
			if product := gauss.Mul(a, b); product == 0 && x != (pair{}) && y != (pair{}) {
				t.Errorf("%s: the product is 0", what)
			}
		}
	}
}

func TestPowersAreAdded(t *testing.T) {
	powers := []int{0, 1, -1, 2, -2, 7, -13, 100, p, -p, 1 << 40, -1 << 40, math.MaxInt/2 - 1, math.MinInt / 2}
	for _, a := range few()[1:] {
		for _, m := range powers {
			for _, n := range powers {
				if gauss.Mul(gauss.Pow(a.of(), m), gauss.Pow(a.of(), n)) != gauss.Pow(a.of(), m+n) {
					t.Errorf("%s to %d and to %d", a.told(), m, n)
				}
			}
		}
	}
}

// P3.5.

func TestPowOfPIsConj(t *testing.T) {
	for _, a := range few() {
		same(t, a.told()+", P of them one by one", gauss.Conj(a.of()), a.power(p))
	}
	for _, a := range numbers() {
		same(t, a.told()+" to P", gauss.Pow(a.of(), gauss.P), pair{a.re, mod(-a.im)})
	}
	for n := range p {
		same(t, strconv.Itoa(n)+" to P", gauss.Pow(gauss.Of(n, 0), gauss.P), pair{n, 0})
		same(t, strconv.Itoa(n)+"i to P", gauss.Pow(gauss.Of(0, n), gauss.P), pair{0, mod(-n)})
	}
}

// Rules that hold everywhere, 1: no call panics, and each ends, also of what is no number of the field.
func TestWhatIsNoNumberOfTheField(t *testing.T) {
	odd := []float64{math.NaN(), math.Inf(1), math.Inf(-1), math.MaxFloat64, -math.MaxFloat64, 1 << 63, -1 << 63, 0.5, -1, math.Copysign(0, -1)}
	inside := func(what string, z complex128) {
		t.Helper()
		re, im := gauss.Parts(z)
		if re < 0 || re >= p || im < 0 || im >= p || z != complex(float64(re), float64(im)) {
			t.Errorf("%s: %v", what, z)
		}
	}
	for _, x := range odd {
		for _, y := range odd {
			a := complex(x, y)
			gauss.Parts(a)
			if n := gauss.Norm(a); n < 0 || n >= p {
				t.Errorf("Norm of %v: %d", a, n)
			}
			inverse, _ := gauss.Inv(a)
			inside("Inv", inverse)
			inside("Conj", gauss.Conj(a))
			for _, b := range []complex128{a, 0, 1, complex(y, x)} {
				inside("Add", gauss.Add(a, b))
				inside("Sub", gauss.Sub(a, b))
				inside("Mul", gauss.Mul(a, b))
			}
			for _, n := range []int{0, 1, -1, p, math.MaxInt, math.MinInt} {
				inside("Pow", gauss.Pow(a, n))
			}
		}
	}
}
