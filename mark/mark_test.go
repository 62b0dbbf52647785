package mark_test

import (
	"bytes"
	"fmt"
	"hanaper/gauss"
	"hanaper/mark"
	"math"
	"math/big"
	"testing"
)

const (
	p       = 8191
	longest = 8191 // bytes of a text of which P4.4 speaks
)

// pair is a number as two ints from 0 to p - 1, which the tests reckon with by themselves.
type pair struct{ re, im int }

func mod(n int) int { return (n%p + p) % p }

func (a pair) plus(b pair) pair  { return pair{mod(a.re + b.re), mod(a.im + b.im)} }
func (a pair) times(b pair) pair { return pair{mod(a.re*b.re - a.im*b.im), mod(a.re*b.im + a.im*b.re)} }

// power is the product of n of a, one by one.
func (a pair) power(n int) pair {
	z := pair{1, 0}
	for range n {
		z = z.times(a)
	}
	return z
}

func (a pair) of() complex128 { return complex(float64(a.re), float64(a.im)) }

// bytes are a's parts, two bytes each.
func (a pair) bytes() []byte {
	return []byte{byte(a.re / 256), byte(a.re % 256), byte(a.im / 256), byte(a.im % 256)}
}

// reckoned is the mark of b, by P4.1: (re + im i)(4 + i) is 4 re - im + (re + 4 im) i.
func reckoned(b []byte) pair {
	var m pair
	for _, x := range b {
		m = pair{mod(4*m.re - m.im + int(x) + 1), mod(m.re + 4*m.im)}
	}
	return m
}

// same holds a mark against the one that the document asks.
func same(t *testing.T, what string, got complex128, want pair) {
	t.Helper()
	if got != want.of() {
		t.Errorf("%s: %v, not %d + %di", what, got, want.re, want.im)
	}
}

// checks holds Put and Check of b against the mark that the document asks.
func checks(t *testing.T, what string, b []byte, want pair) {
	t.Helper()
	if got := mark.Put(b); !bytes.Equal(got, want.bytes()) {
		t.Errorf("Put of %s: %d, not %d", what, got, want.bytes())
	}
	if !mark.Check(b, want.bytes()) {
		t.Errorf("Check of %s: false of its own mark", what)
	}
}

// named is a text, and its name in the tests' messages.
type named struct {
	name string
	b    []byte
}

// mixed is n bytes of all sizes, which hang on the place and on seed.
func mixed(seed, n int) []byte {
	b := make([]byte, n)
	for i := range b {
		b[i] = byte(i*i*37 + i*11 + i/256*5 + seed*101)
	}
	return b
}

// chosen is a text whose mark is known.
type chosen struct {
	b    []byte
	want pair
}

// edges are texts whose marks have parts that are 0, or pass 255, or come to 8190.
func edges() []chosen {
	return []chosen{
		{nil, pair{0, 0}},
		{[]byte{}, pair{0, 0}},
		{[]byte{0}, pair{1, 0}},
		{[]byte{254}, pair{255, 0}},
		{[]byte{255}, pair{256, 0}},
		{[]byte{0, 0}, pair{5, 1}},
		{[]byte{0, 255}, pair{260, 1}},
		{[]byte{254, 255}, pair{1276, 255}},
		{[]byte{255, 0}, pair{1025, 256}},
		{[]byte{255, 255}, pair{1280, 256}},
		{[]byte{0, 0, 0}, pair{20, 9}},
		{[]byte{255, 255, 255}, pair{5120, 2304}},
		{[]byte{3, 146, 6, 10, 9}, pair{0x0100, 0x1f00}},
		{[]byte{9, 124, 20, 2, 9}, pair{256, 255}},
		{[]byte{9, 118, 23, 4, 11}, pair{8190, 8190}},
		{[]byte{9, 118, 23, 4, 12}, pair{0, 8190}},
		{[]byte{9, 118, 23, 5, 7}, pair{8190, 0}},
		{[]byte{9, 118, 23, 5, 8}, pair{0, 0}},
		{[]byte{9, 118, 23, 5, 9}, pair{1, 0}},
	}
}

// texts are texts of all lengths up to 70, and some about 256, 1024 and the longest.
func texts() []named {
	var all []named
	add := func(name string, b []byte) {
		all = append(all, named{fmt.Sprintf("%d bytes, %s", len(b), name), b})
	}
	lengths := []int{255, 256, 257, 1023, 1024, 1025, longest - 1, longest}
	for n := range 70 {
		lengths = append(lengths, n)
	}
	for _, n := range lengths {
		add("all 0", make([]byte, n))
		add("all 255", bytes.Repeat([]byte{255}, n))
		add("mixed", mixed(n, n))
	}
	return append(all, named{"nil", nil}, named{"words", []byte("a record of the class hr, kept for three days")})
}

// P4.1: Base, Of.

func TestBase(t *testing.T) {
	same(t, "Base", mark.Base(), pair{4, 1})
}

func TestExamples(t *testing.T) {
	same(t, "one byte 0", mark.Of([]byte{0}), pair{1, 0})
	same(t, "0, 0", mark.Of([]byte{0, 0}), pair{5, 1})
	same(t, "0 and 0", mark.Of([]byte{0}, []byte{0}), pair{5, 1})
}

func TestOfNoByte(t *testing.T) {
	same(t, "no part", mark.Of(), pair{})
	same(t, "no parts, as a list", mark.Of([][]byte{}...), pair{})
	same(t, "nil", mark.Of(nil), pair{})
	same(t, "nil and nil", mark.Of(nil, nil), pair{})
	same(t, "an empty part", mark.Of([]byte{}), pair{})
	same(t, "some of both", mark.Of([]byte{}, nil, []byte{}, nil), pair{})
}

func TestOfEachByte(t *testing.T) {
	for x := range 256 {
		one := []byte{byte(x)}
		same(t, fmt.Sprint("byte ", x), mark.Of(one), pair{x + 1, 0})
		same(t, fmt.Sprint("0 and byte ", x), mark.Of([]byte{0}, one), pair{x + 5, 1})
		same(t, fmt.Sprint("byte ", x, " and 0"), mark.Of(one, []byte{0}), pair{4*(x+1) + 1, x + 1})
	}
}

func TestOfEdges(t *testing.T) {
	for _, c := range edges() {
		same(t, fmt.Sprint(c.b), mark.Of(c.b), c.want)
	}
}

func TestOfTexts(t *testing.T) {
	for _, c := range texts() {
		same(t, c.name, mark.Of(c.b), reckoned(c.b))
	}
}

func TestOfPowers(t *testing.T) {
	// Of a text of n bytes 0 the mark is the sum of the first n powers of Base.
	sum, power := pair{}, pair{1, 0}
	for n := range 200 {
		same(t, fmt.Sprint(n, " bytes 0"), mark.Of(make([]byte, n)), sum)
		sum, power = sum.plus(power), power.times(pair{4, 1})
	}
}

func TestOfInTwoAndThreeParts(t *testing.T) {
	for _, c := range texts() {
		if len(c.b) > 40 {
			continue
		}
		want := reckoned(c.b)
		for i := range len(c.b) + 1 {
			same(t, c.name+", in two", mark.Of(c.b[:i], c.b[i:]), want)
			same(t, c.name+", in two, none between", mark.Of(nil, c.b[:i], []byte{}, c.b[i:], nil), want)
			for k := i; k <= len(c.b); k++ {
				same(t, c.name+", in three", mark.Of(c.b[:i], c.b[i:k], c.b[k:]), want)
			}
		}
	}
}

func TestOfInManyParts(t *testing.T) {
	b := mixed(5, longest)
	want := reckoned(b)
	for _, size := range []int{1, 2, 3, 7, 64, 252, 256, 4000, 8190, 8191} {
		var parts [][]byte
		for rest := b; len(rest) > 0; {
			n := min(size, len(rest))
			parts = append(parts, rest[:n], nil)
			rest = rest[n:]
		}
		same(t, fmt.Sprint("parts of ", size), mark.Of(parts...), want)
	}
	for _, at := range []int{0, 1, 4095, 8190, 8191} {
		same(t, fmt.Sprint("in two, at ", at), mark.Of(b[:at], b[at:]), want)
	}
}

func TestOfOrderOfParts(t *testing.T) {
	a, b := []byte("ab"), []byte("cde")
	same(t, "ab, cde", mark.Of(a, b), reckoned([]byte("abcde")))
	same(t, "cde, ab", mark.Of(b, a), reckoned([]byte("cdeab")))
	same(t, "ab, ab", mark.Of(a, a), reckoned([]byte("abab")))
}

// P4.1: Join.

func TestJoinByHand(t *testing.T) {
	for _, c := range []struct {
		a, b pair
		n    int
		want pair
	}{
		{pair{0, 0}, pair{0, 0}, 0, pair{0, 0}},
		{pair{5, 7}, pair{11, 13}, 0, pair{16, 20}},
		{pair{8190, 8190}, pair{1, 2}, 0, pair{0, 1}},
		{pair{1, 0}, pair{0, 0}, 1, pair{4, 1}},
		{pair{1, 0}, pair{1, 0}, 1, pair{5, 1}},
		{pair{0, 1}, pair{0, 0}, 1, pair{8190, 4}},
		{pair{5, 7}, pair{11, 13}, 1, pair{24, 46}},
		{pair{8190, 8190}, pair{8190, 8190}, 1, pair{8187, 8185}},
		{pair{1, 0}, pair{0, 0}, 2, pair{15, 8}},
		{pair{1, 0}, pair{2, 3}, 3, pair{54, 50}},
		{pair{0, 0}, pair{11, 13}, 1000, pair{11, 13}},
		{pair{1, 0}, pair{0, 0}, 8191, pair{4, 8190}},
		{pair{1, 0}, pair{0, 0}, 8192, pair{17, 0}},
	} {
		same(t, fmt.Sprint("Join of ", c.a, c.b, c.n), mark.Join(c.a.of(), c.b.of(), c.n), c.want)
	}
}

// marks are numbers of all kinds.
func marks() []pair {
	return []pair{{0, 0}, {1, 0}, {0, 1}, {8190, 0}, {0, 8190}, {8190, 8190}, {4, 1}, {4, 8190}, {255, 256}, {577, 4003}, {4096, 4095}}
}

func TestJoinOfEachLength(t *testing.T) {
	power := pair{1, 0}
	for n := range 600 {
		for _, a := range marks() {
			for _, b := range marks() {
				same(t, fmt.Sprint("Join of ", a, b, n), mark.Join(a.of(), b.of(), n), a.times(power).plus(b))
			}
		}
		power = power.times(pair{4, 1})
	}
}

func TestJoinOfGreatLengths(t *testing.T) {
	// The power 8192 of Base is its norm, 17, and the power 8190 of that is 1.
	for _, n := range []int{8191, 8192, 8193, 16384, 1 << 20, 1 << 31, 1<<31 - 1, 1 << 62, math.MaxInt - 1, math.MaxInt} {
		left := int(new(big.Int).Mod(big.NewInt(int64(n)), big.NewInt(8192*8190)).Int64())
		power := pair{4, 1}.power(left % 8192).times(pair{17, 0}.power(left / 8192))
		for _, a := range marks() {
			same(t, fmt.Sprint("Join of ", a, n), mark.Join(a.of(), pair{3, 8000}.of(), n), a.times(power).plus(pair{3, 8000}))
		}
	}
}

func TestJoinOfLengthBelowZero(t *testing.T) {
	for _, n := range []int{-1, -2, -255, -8191, -8192, -1 << 31, -1 << 32, math.MinInt + 1, math.MinInt} {
		for _, a := range marks() {
			for _, b := range marks() {
				same(t, fmt.Sprint("Join of ", a, b, n), mark.Join(a.of(), b.of(), n), pair{})
			}
		}
	}
}

// Rules that hold everywhere, 1: no call panics, and each ends, also of what is no mark.
func TestJoinOfWhatIsNoMark(t *testing.T) {
	odd := []float64{math.NaN(), math.Inf(1), math.Inf(-1), math.MaxFloat64, -1 << 63, 0.5, -1, 1e9}
	for _, x := range odd {
		for _, y := range odd {
			for _, n := range []int{0, 1, 8191, math.MaxInt} {
				mark.Join(complex(x, y), 1, n)
				mark.Join(1, complex(x, y), n)
			}
			same(t, "below 0", mark.Join(complex(x, y), complex(y, x), -1), pair{})
			same(t, "below 0", mark.Join(complex(x, y), complex(y, x), math.MinInt), pair{})
		}
	}
}

// P4.2: Put, Check.

func TestSize(t *testing.T) {
	if mark.Size != 4 {
		t.Errorf("Size is %d", mark.Size)
	}
	for _, c := range texts() {
		if n := len(mark.Put(c.b)); n != 4 {
			t.Errorf("Put of %s: %d bytes", c.name, n)
		}
	}
}

func TestPutByHand(t *testing.T) {
	for _, c := range []struct{ b, want []byte }{
		{nil, []byte{0, 0, 0, 0}},
		{[]byte{}, []byte{0, 0, 0, 0}},
		{[]byte{0}, []byte{0, 1, 0, 0}},
		{[]byte{0, 0}, []byte{0, 5, 0, 1}},
		{[]byte{254}, []byte{0, 255, 0, 0}},
		{[]byte{255}, []byte{1, 0, 0, 0}},
		{[]byte{255, 255}, []byte{5, 0, 1, 0}},
		{[]byte{255, 255, 255}, []byte{20, 0, 9, 0}},
		{[]byte{3, 146, 6, 10, 9}, []byte{1, 0, 31, 0}},
		{[]byte{9, 118, 23, 4, 11}, []byte{31, 254, 31, 254}},
		{[]byte{9, 118, 23, 4, 12}, []byte{0, 0, 31, 254}},
		{[]byte{9, 118, 23, 5, 7}, []byte{31, 254, 0, 0}},
	} {
		if got := mark.Put(c.b); !bytes.Equal(got, c.want) {
			t.Errorf("Put of %d: %d, not %d", c.b, got, c.want)
		}
	}
}

func TestPutAndCheck(t *testing.T) {
	for _, c := range edges() {
		checks(t, fmt.Sprint(c.b), c.b, c.want)
	}
	for _, c := range texts() {
		checks(t, c.name, c.b, reckoned(c.b))
	}
}

func TestCheckOfAnotherMark(t *testing.T) {
	var all [][]byte
	for _, c := range edges() {
		all = append(all, c.b)
	}
	for _, b := range append(all, mixed(1, 100), mixed(2, 252), []byte("words")) {
		for at := range mark.Size {
			m := mark.Put(b)
			right := m[at]
			for x := range 256 {
				m[at] = byte(x)
				if mark.Check(b, m) != (m[at] == right) {
					t.Fatalf("Check of %d and %d, with byte %d another one: %v", b, m, at, m[at] != right)
				}
			}
		}
	}
}

func TestCheckOfWhatIsNoMark(t *testing.T) {
	for _, c := range texts() {
		m := mark.Put(c.b)
		for what, wrong := range map[string][]byte{
			"nil":                  nil,
			"empty":                {},
			"1 byte":               m[:1],
			"2 bytes":              m[:2],
			"3 bytes":              m[:3],
			"the last 3":           m[1:],
			"0 behind it":          {m[0], m[1], m[2], m[3], 0},
			"0 ahead of it":        {0, m[0], m[1], m[2], m[3]},
			"it twice":             {m[0], m[1], m[2], m[3], m[0], m[1], m[2], m[3]},
			"its first part and P": beyond(m),
		} {
			if mark.Check(c.b, wrong) {
				t.Errorf("Check of %s and %s: true", c.name, what)
			}
		}
	}
}

// beyond is m with its first part P higher, which is the same number modulo P.
func beyond(m []byte) []byte {
	n := int(m[0])*256 + int(m[1]) + p
	return []byte{byte(n / 256), byte(n % 256), m[2], m[3]}
}

func TestCheckOfPartsTurned(t *testing.T) {
	b := []byte{3, 146, 6, 10, 9} // 1 0, 31 0
	for _, m := range [][]byte{{31, 0, 1, 0}, {0, 1, 0, 31}, {0, 31, 0, 1}, {1, 0, 0, 31}, {0, 1, 31, 0}} {
		if mark.Check(b, m) {
			t.Errorf("%d is taken for 1 0 31 0", m)
		}
	}
}

// Rules that hold everywhere, 3: what is handed in is not changed, what is answered is new.
func TestNothingIsChangedOrShared(t *testing.T) {
	whole := mixed(3, 300)
	kept := bytes.Clone(whole)
	parts := [][]byte{whole[:100], whole[100:101], whole[101:200]}
	mark.Of(parts...)
	m := mark.Put(whole[:200])
	mark.Check(whole[:200], m)
	mark.Check(whole[:100], whole[100:104])
	if !bytes.Equal(whole, kept) || len(parts[0]) != 100 || len(parts[1]) != 1 || len(parts[2]) != 99 {
		t.Error("what was handed in is another one")
	}
	if !bytes.Equal(m, mark.Put(whole[:200])) {
		t.Error("Check changed the mark")
	}
	clear(m)
	if !bytes.Equal(mark.Put(whole[:200]), reckoned(whole[:200]).bytes()) {
		t.Error("two answers share their bytes")
	}
}

// P4.3.

func TestJoinOfTwoTexts(t *testing.T) {
	for _, c := range texts() {
		want := mark.Of(c.b)
		step := 1 + len(c.b)/100
		for i := 0; i <= len(c.b); i += step {
			if got := mark.Join(mark.Of(c.b[:i]), mark.Of(c.b[i:]), len(c.b)-i); got != want {
				t.Errorf("%s, at %d: %v, not %v", c.name, i, got, want)
			}
		}
	}
}

func TestJoinWithAnEmptyText(t *testing.T) {
	for _, c := range texts() {
		m := reckoned(c.b)
		same(t, c.name+", none ahead", mark.Join(mark.Of(), mark.Of(c.b), len(c.b)), m)
		same(t, c.name+", none behind", mark.Join(mark.Of(c.b), mark.Of(), 0), m)
		same(t, c.name+", one behind", mark.Join(mark.Of(c.b), mark.Of([]byte{255}), 1), reckoned(append(bytes.Clone(c.b), 255)))
	}
	same(t, "both empty", mark.Join(mark.Of(), mark.Of(), 0), pair{})
}

func TestJoinOfThreeTexts(t *testing.T) {
	all := texts()
	for i := range 60 {
		a, b, c := all[i].b, all[i+7].b, all[i*2+3].b
		want := mark.Of(a, b, c)
		first := mark.Join(mark.Join(mark.Of(a), mark.Of(b), len(b)), mark.Of(c), len(c))
		last := mark.Join(mark.Of(a), mark.Join(mark.Of(b), mark.Of(c), len(c)), len(b)+len(c))
		if first != want || last != want {
			t.Errorf("%s; %s; %s: %v and %v, not %v", all[i].name, all[i+7].name, all[i*2+3].name, first, last, want)
		}
	}
}

// P4.4.

// unlike holds that a and b have unlike marks, and that neither is taken for the other.
func unlike(t *testing.T, what string, a, b []byte) {
	t.Helper()
	if mark.Of(a) == mark.Of(b) || bytes.Equal(mark.Put(a), mark.Put(b)) {
		t.Errorf("%s: the same mark", what)
	}
	if mark.Check(a, mark.Put(b)) {
		t.Errorf("%s: one is taken for the other", what)
	}
}

func TestPowersOfBase(t *testing.T) {
	power := mark.Join(1, 0, 0)
	for n := 1; n <= longest; n++ {
		power = gauss.Mul(power, mark.Base())
		if _, im := gauss.Parts(power); im == 0 || power != mark.Join(1, 0, n) {
			t.Fatalf("the power %d: %v", n, power)
		}
	}
}

func TestAllTextsOfTwoBytes(t *testing.T) {
	seen := map[complex128][2]byte{}
	for x := range 256 {
		for y := range 256 {
			m := mark.Of([]byte{byte(x), byte(y)})
			if other, ok := seen[m]; ok {
				t.Fatalf("%d %d and %d: the same mark", x, y, other)
			}
			seen[m] = [2]byte{byte(x), byte(y)}
		}
	}
}

func TestOnePlace(t *testing.T) {
	for _, n := range []int{1, 2, 3, 17, 252} {
		for _, b := range [][]byte{make([]byte, n), bytes.Repeat([]byte{255}, n), mixed(n, n)} {
			c := bytes.Clone(b)
			for at := range n {
				for x := 1; x < 256; x++ {
					c[at] = b[at] ^ byte(x)
					if x%17 == 1 || n < 4 {
						unlike(t, fmt.Sprint(n, " bytes, another one at ", at), b, c)
					}
				}
				c[at] = b[at]
			}
		}
	}
}

// places are some of a text of the longest length: the first and the last ones, and some between, next to each other and far apart.
func places() []int {
	return []int{0, 1, 2, 255, 256, 4095, 4096, 4097, longest - 3, longest - 2, longest - 1}
}

func TestOnePlaceOfTheLongest(t *testing.T) {
	b := mixed(9, longest)
	for _, at := range places() {
		for _, x := range []byte{1, 16, 128, 255} {
			c := bytes.Clone(b)
			c[at] ^= x
			unlike(t, fmt.Sprint("another one at ", at), b, c)
		}
	}
}

func TestTwoPlaces(t *testing.T) {
	b := mixed(4, 40)
	for i := range b {
		for k := range i {
			for _, x := range []byte{1, 2, 64, 128, 255} {
				for _, y := range []byte{1, 4, 128, 255} {
					c := bytes.Clone(b)
					c[i] ^= x
					c[k] ^= y
					unlike(t, fmt.Sprint("others at ", k, " and ", i), b, c)
				}
			}
		}
	}
}

func TestTwoPlacesOfTheLongest(t *testing.T) {
	b := mixed(6, longest)
	for _, i := range places() {
		for _, k := range places() {
			if k >= i {
				continue
			}
			c := bytes.Clone(b)
			c[i] ^= 255
			c[k] ^= 1
			unlike(t, fmt.Sprint("others at ", k, " and ", i), b, c)
			copy(c, b)
			c[i], c[k] = b[k], b[i]
			if b[i] != b[k] {
				unlike(t, fmt.Sprint("those at ", k, " and ", i, " change places"), b, c)
			}
		}
	}
}

// Next to each other: what is put on one byte is taken off the other one, so that one part of the mark is the same.
func TestTwoPlacesWithOnePartAlike(t *testing.T) {
	for _, n := range []int{2, 3, 100, longest} {
		for _, at := range []int{0, (n - 2) / 2, n - 2} {
			b := bytes.Repeat([]byte{100}, n)
			for d := 1; d <= 25; d++ {
				c := bytes.Clone(b)
				c[at] += byte(d)
				c[at+1] -= byte(4 * d)
				unlike(t, fmt.Sprint(n, " bytes, at ", at, ", first parts alike"), b, c)
			}
		}
	}
}

// All bytes at two places: the mark of the whole is put together by Join, which P4.3's tests hold.
func TestAllBytesAtTwoPlacesFarApart(t *testing.T) {
	for _, between := range []int{0, 1, 2, 89, 250, 2047, 4094, 4095, longest - 3, longest - 2} {
		middle := mark.Of(mixed(between, between))
		seen := map[complex128]bool{}
		for x := range 256 {
			first := mark.Join(mark.Of([]byte{byte(x)}), middle, between)
			for y := range 256 {
				seen[mark.Join(first, mark.Of([]byte{byte(y)}), 1)] = true
			}
		}
		if len(seen) != 256*256 {
			t.Errorf("with %d bytes between: %d marks", between, len(seen))
		}
	}
}
