package alloc_test

import (
	"bytes"
	"fmt"
	"hanaper/alloc"
	"math"
	"math/big"
	"math/rand"
	"slices"
	"strings"
	"testing"
)

const mostBits = 4096

// bytesFor is how many bytes n bits are told as, counted byte by byte.
func bytesFor(n int) int {
	k := 0
	for ; n > 0; n -= 8 {
		k++
	}
	return k
}

// bitsOf is Bits of numbers that rise, as a sum of powers of 2.
func bitsOf(at []int, n int) []byte {
	k := bytesFor(n)
	sum := new(big.Int)
	for _, i := range at {
		sum.SetBit(sum, 8*k-1-i, 1)
	}
	return sum.FillBytes(make([]byte, k))
}

// may is whether P11.2 has bits of these numbers, with n.
func may(at []int, n int) bool {
	sorted := slices.Clone(at)
	slices.Sort(sorted)
	if n < 0 || n > mostBits || !slices.Equal(sorted, at) || len(slices.Compact(sorted)) != len(at) {
		return false
	}
	return len(at) == 0 || at[0] >= 0 && at[len(at)-1] < n
}

// listOf is List, reckoned on the bytes written as digits.
func listOf(b []byte, n int) ([]int, bool) {
	if n < 0 || n > mostBits || len(b) != bytesFor(n) {
		return nil, false
	}
	var digits strings.Builder
	for _, x := range b {
		fmt.Fprintf(&digits, "%08b", x)
	}
	text := digits.String()
	if strings.Contains(text[n:], "1") {
		return nil, false
	}
	var at []int
	for i, c := range text[:n] {
		if c == '1' {
			at = append(at, i)
		}
	}
	return at, true
}

// bitsTo holds Bits against the bytes that the document asks, and List of these against the numbers (P11.4).
func bitsTo(t *testing.T, at []int, n int, want []byte) {
	t.Helper()
	for _, other := range []int{-1, 0, math.MaxInt} {
		untouched(t, "Bits", at, other, func(at []int) {
			t.Helper()
			if b, ok := alloc.Bits(at, n); !ok || !bytes.Equal(b, want) {
				t.Errorf("Bits(%s, %d): %s, %t, not %s", short(at), n, short(b), ok, short(want))
			}
		})
	}
	listsTo(t, want, n, at)
}

// listsTo holds List against the numbers that the document asks.
func listsTo(t *testing.T, b []byte, n int, want []int) {
	t.Helper()
	for _, other := range []byte{0, 255} {
		untouched(t, "List", b, other, func(b []byte) {
			t.Helper()
			if at, ok := alloc.List(b, n); !ok || !same(at, want) {
				t.Errorf("List(%s, %d): %s, %t, not %s", short(b), n, short(at), ok, short(want))
			}
		})
	}
}

// refusesBits asks that Bits answers none and false.
func refusesBits(t *testing.T, at []int, n int) {
	t.Helper()
	untouched(t, "Bits", at, 0, func(at []int) {
		t.Helper()
		if b, ok := alloc.Bits(at, n); ok || len(b) != 0 {
			t.Errorf("Bits(%s, %d): %s, %t, where there are none", short(at), n, short(b), ok)
		}
	})
}

// refusesList asks that List answers none and false.
func refusesList(t *testing.T, b []byte, n int) {
	t.Helper()
	for _, other := range []byte{0, 255} {
		untouched(t, "List", b, other, func(b []byte) {
			t.Helper()
			if at, ok := alloc.List(b, n); ok || len(at) != 0 {
				t.Errorf("List(%s, %d): %s, %t, where there are none", short(b), n, short(at), ok)
			}
		})
	}
}

// bits holds Bits against the tests' own reckoning, and what is told as bits against List.
func bits(t *testing.T, at []int, n int) {
	t.Helper()
	if may(at, n) {
		bitsTo(t, at, n, bitsOf(at, n))
	} else {
		refusesBits(t, at, n)
	}
}

// lists holds List against the tests' own reckoning, and what is listed against Bits, which tells the same bytes of it (P11.4).
func lists(t *testing.T, b []byte, n int) {
	t.Helper()
	at, ok := listOf(b, n)
	if ok {
		bitsTo(t, at, n, b)
	} else {
		refusesList(t, b, n)
	}
}

// row is the numbers from 0 to n - 1.
func row(n int) []int {
	all := make([]int, n)
	for i := range all {
		all[i] = i
	}
	return all
}

// edges are numbers of bits: about whole bytes, and the least and the most.
func edges() []int {
	return []int{0, 1, 2, 7, 8, 9, 10, 15, 16, 17, 255, 256, 257, 800, 4087, 4088, 4089, mostBits - 1, mostBits}
}

// wrongSizes are numbers of bits that may not be, also those whose lower bits may.
func wrongSizes() []int {
	return []int{
		-1, -2, -7, -8, -9, -16, -4095, -4096, -4097, -1 << 16, -1 << 32, -1<<32 + 8, -1 << 62, math.MinInt, math.MinInt + 1, math.MinInt + 8, math.MinInt + 4096,
		4097, 4098, 4103, 4104, 4105, 5000, 8192, 1 << 16, 1<<16 + 8, 1 << 32, 1<<32 + 8, 1<<32 + 4096, 1 << 62, math.MaxInt32, math.MaxInt - 7, math.MaxInt - 1, math.MaxInt,
	}
}

// thrownRise are numbers from 0 to n - 1 that rise, of which so many of a hundred are there.
func thrownRise(d *rand.Rand, n, of int) []int {
	var at []int
	for i := range n {
		if d.Intn(100) < of {
			at = append(at, i)
		}
	}
	return at
}

// P11.2: Bits, List.

func TestBitsExample(t *testing.T) {
	bitsTo(t, []int{0, 9}, 10, []byte{128, 64})
}

func TestBitsByHand(t *testing.T) {
	for _, c := range []struct {
		at   []int
		n    int
		want []byte
	}{
		{nil, 0, nil},
		{nil, 1, []byte{0}},
		{nil, 7, []byte{0}},
		{nil, 8, []byte{0}},
		{nil, 9, []byte{0, 0}},
		{nil, 15, []byte{0, 0}},
		{nil, 16, []byte{0, 0}},
		{nil, 17, []byte{0, 0, 0}},
		{[]int{0}, 1, []byte{128}},
		{[]int{0}, 7, []byte{128}},
		{[]int{6}, 7, []byte{2}},
		{[]int{0, 6}, 7, []byte{130}},
		{[]int{0, 1, 2, 3, 4, 5, 6}, 7, []byte{254}},
		{[]int{0}, 8, []byte{128}},
		{[]int{1}, 8, []byte{64}},
		{[]int{2}, 8, []byte{32}},
		{[]int{3}, 8, []byte{16}},
		{[]int{4}, 8, []byte{8}},
		{[]int{5}, 8, []byte{4}},
		{[]int{6}, 8, []byte{2}},
		{[]int{7}, 8, []byte{1}},
		{[]int{0, 7}, 8, []byte{129}},
		{[]int{0, 2, 4, 6}, 8, []byte{170}},
		{[]int{1, 3, 5, 7}, 8, []byte{85}},
		{[]int{0, 1, 2, 3, 4, 5, 6, 7}, 8, []byte{255}},
		{[]int{0}, 9, []byte{128, 0}},
		{[]int{7}, 9, []byte{1, 0}},
		{[]int{8}, 9, []byte{0, 128}},
		{[]int{0, 8}, 9, []byte{128, 128}},
		{[]int{0, 1, 2, 3, 4, 5, 6, 7, 8}, 9, []byte{255, 128}},
		{[]int{14}, 15, []byte{0, 2}},
		{[]int{0, 14}, 15, []byte{128, 2}},
		{row(15), 15, []byte{255, 254}},
		{[]int{15}, 16, []byte{0, 1}},
		{[]int{0, 15}, 16, []byte{128, 1}},
		{[]int{3, 8, 12}, 16, []byte{16, 136}},
		{row(16), 16, []byte{255, 255}},
		{[]int{0}, 17, []byte{128, 0, 0}},
		{[]int{16}, 17, []byte{0, 0, 128}},
		{[]int{0, 16}, 17, []byte{128, 0, 128}},
		{row(17), 17, []byte{255, 255, 128}},
	} {
		bitsTo(t, c.at, c.n, c.want)
		bits(t, c.at, c.n)
		lists(t, c.want, c.n)
	}
}

// The two greatest numbers of bits, by hand.
func TestGreatestSets(t *testing.T) {
	between, ones := make([]byte, 510), bytes.Repeat([]byte{255}, 511)
	for _, c := range []struct {
		n          int
		last, full byte
	}{{4095, 2, 254}, {4096, 1, 255}} {
		bitsTo(t, nil, c.n, make([]byte, 512))
		bitsTo(t, []int{0}, c.n, slices.Concat([]byte{128, 0}, between))
		bitsTo(t, []int{c.n - 1}, c.n, slices.Concat([]byte{0}, between, []byte{c.last}))
		bitsTo(t, []int{0, c.n - 1}, c.n, slices.Concat([]byte{128}, between, []byte{c.last}))
		bitsTo(t, row(c.n), c.n, slices.Concat(ones, []byte{c.full}))
	}
}

// Each number alone, and each alone not there.
func TestEachNumber(t *testing.T) {
	for _, n := range append(edges(), row(40)...) {
		for i := range n {
			if n < 300 || i < 9 || i > n-9 || i%97 == 0 {
				bits(t, []int{i}, n)
				bits(t, slices.Delete(row(n), i, i+1), n)
			}
		}
		bits(t, nil, n)
		bits(t, row(n), n)
	}
	for i := range mostBits {
		if b, ok := alloc.Bits([]int{i}, mostBits); !ok || !bytes.Equal(b, bitsOf([]int{i}, mostBits)) {
			t.Errorf("Bits([%d], %d): %s, %t", i, mostBits, short(b), ok)
		}
	}
}

// All sets of up to 11 bits.
func TestAllSmallSets(t *testing.T) {
	for n := range 12 {
		for v := range 1 << n {
			var at []int
			for i := range n {
				if v>>i&1 == 1 {
					at = append(at, i)
				}
			}
			bits(t, at, n)
		}
	}
}

func TestThrownRises(t *testing.T) {
	d := rand.New(rand.NewSource(112))
	for _, of := range []int{1, 20, 50, 99} {
		for range 100 {
			n := d.Intn(mostBits + 1)
			bits(t, thrownRise(d, n, of), n)
			n = d.Intn(100)
			bits(t, thrownRise(d, n, of), n)
		}
	}
}

// All rows of up to four numbers about 0 to 3, with all n about these: most fall, stand twice, or are beyond.
func TestAllShortLists(t *testing.T) {
	var hold func(at []int)
	told := 0
	hold = func(at []int) {
		for n := -1; n <= 5; n++ {
			bits(t, at, n)
			if may(at, n) {
				told++
			}
		}
		for v := -1; v <= 4 && len(at) < 4; v++ {
			hold(append(slices.Clone(at), v))
		}
	}
	hold(nil)
	if told != 1+2+4+8+16+31 { // all sets of 0 to 5 numbers, but for the one of five
		t.Errorf("%d lists were such as may be", told)
	}
}

// A list that may be, with one number that may not.
func TestWrongNumbers(t *testing.T) {
	for _, n := range edges() {
		for _, x := range []int{-1, -2, -8, -9, -4096, -1 << 32, -1<<32 + 1, math.MinInt, math.MinInt + 1, n, n + 1, n + 7, n + 8, n + 256, 4096, 4097, 1 << 16, 1 << 32, 1<<32 + 1, 1 << 62, math.MaxInt - 1, math.MaxInt} {
			refusesBits(t, []int{x}, n)
			refusesBits(t, []int{x, x}, n)
			if n > 0 {
				refusesBits(t, []int{x, 0}, n)
				refusesBits(t, []int{0, x}, n)
				refusesBits(t, []int{n - 1, x}, n)
				refusesBits(t, []int{x, n - 1}, n)
				refusesBits(t, append(row(n), x), n)
				refusesBits(t, append([]int{x}, row(n)...), n)
				refusesBits(t, append(row(n/2), append([]int{x}, row(n)[n/2:]...)...), n)
			}
		}
	}
}

// Numbers that fall, or stand twice: at the beginning, in the midst, at the end.
func TestListsThatDoNotRise(t *testing.T) {
	for _, at := range [][]int{
		{0, 0}, {5, 5}, {9, 9}, {1, 0}, {9, 0}, {9, 8}, {0, 9, 0}, {0, 9, 9}, {0, 0, 9}, {5, 5, 9}, {0, 5, 4, 9}, {0, 5, 5, 9},
		{0, 1, 2, 3, 3}, {3, 0, 1, 2}, {1, 2, 3, 0}, {0, 2, 1, 3}, {9, 8, 7, 6, 5, 4, 3, 2, 1, 0},
	} {
		for _, n := range []int{10, 16, 17, mostBits} {
			refusesBits(t, at, n)
		}
	}
	for _, n := range edges() {
		if n < 2 {
			continue
		}
		for _, i := range []int{0, n / 2, n - 1} {
			twice := slices.Insert(row(n), i, i)
			refusesBits(t, twice, n)
		}
		fall := row(n)
		fall[n-2], fall[n-1] = n-1, n-2
		refusesBits(t, fall, n)
		fall = row(n)
		slices.Reverse(fall)
		refusesBits(t, fall, n)
	}
	refusesBits(t, append(row(mostBits), row(mostBits)...), mostBits)
}

// Thrown rows, with a number that is changed, put in, or moved.
func TestThrownLists(t *testing.T) {
	d := rand.New(rand.NewSource(115))
	var told [2]int
	for range 4000 {
		n := 1 + d.Intn(60)
		at := append(thrownRise(d, n, 30), d.Intn(n+2)-1)
		if d.Intn(2) == 0 {
			slices.Sort(at)
		}
		if d.Intn(2) == 0 {
			at[d.Intn(len(at))] += d.Intn(3) - 1
		}
		bits(t, at, n)
		if may(at, n) {
			told[1]++
		} else {
			told[0]++
		}
	}
	if told[0] < 500 || told[1] < 500 {
		t.Errorf("lists that may not be, and that may: %v", told)
	}
}

// Numbers of bits that may not be; also with lists that may not be either.
func TestBitsOfWrongSizes(t *testing.T) {
	for _, n := range wrongSizes() {
		for _, at := range [][]int{nil, {0}, {0, 9}, {7}, {n - 1}, {-1}, {9, 0}, {0, 0}, {n}, {math.MinInt}, {math.MaxInt}, {math.MaxInt, math.MinInt}, row(4096), row(4097)} {
			refusesBits(t, at, n)
		}
	}
}

// One byte, and two, in all their ways.
func TestAllShortBytes(t *testing.T) {
	for x := range 256 {
		for n := range 12 {
			lists(t, []byte{byte(x)}, n)
		}
		for y := range 256 {
			for _, n := range []int{8, 9, 10, 15, 16, 17} {
				b := []byte{byte(x), byte(y)}
				want, is := listOf(b, n)
				if at, ok := alloc.List(b, n); ok != is || !same(at, want) {
					t.Fatalf("List(%v, %d): %v, %t, not %v, %t", b, n, at, ok, want, is)
				}
			}
		}
	}
}

// One bit behind the n'th is 1: none of the others, or all.
func TestBitsBehindTheLast(t *testing.T) {
	for _, n := range append(edges(), 3, 4, 5, 6, 11, 12, 13, 14, 4090, 4091, 4092, 4093, 4094) {
		for i := n; i < 8*bytesFor(n); i++ {
			for _, at := range [][]int{nil, row(n), {n - 1}, {0}} {
				b := bitsOf(at, n)
				listsTo(t, b, n, at)
				b[i/8] |= 128 >> (i % 8)
				refusesList(t, b, n)
			}
		}
	}
	refusesList(t, []byte{0, 32}, 10)
	refusesList(t, []byte{128, 96}, 10)
	refusesList(t, []byte{1}, 7)
	refusesList(t, []byte{64}, 1)
	refusesList(t, []byte{255, 255}, 9)
}

// A byte too few, a byte too many, nil, and bytes where none are asked.
func TestListOfWrongLengths(t *testing.T) {
	for _, n := range edges() {
		for _, at := range [][]int{nil, row(n), row(n)[n/2:]} {
			b := bitsOf(at, n)
			listsTo(t, b, n, at)
			refusesList(t, append(slices.Clone(b), 0), n)
			refusesList(t, append(slices.Clone(b), 255), n)
			refusesList(t, append([]byte{0}, b...), n)
			refusesList(t, append(slices.Clone(b), make([]byte, 600)...), n)
			if n > 0 {
				refusesList(t, nil, n)
				refusesList(t, b[:len(b)-1], n)
				refusesList(t, b[1:], n)
			}
		}
	}
	for _, b := range [][]byte{{0}, {128}, {1}, {255}, {0, 0}, make([]byte, 512)} {
		refusesList(t, b, 0)
	}
}

// Numbers of bits that may not be, with bytes that would be as many; also with bits that may not be either.
func TestListOfWrongSizes(t *testing.T) {
	for _, n := range wrongSizes() {
		for _, k := range []int{0, 1, 2, 511, 512, 513, 514, 625, 1024, 8192} {
			refusesList(t, make([]byte, k), n)
			refusesList(t, bytes.Repeat([]byte{255}, k), n)
			refusesList(t, append(make([]byte, k), 128), n)
		}
	}
}

// Thrown bytes, most of which have bits behind the n'th, and those that have none.
func TestThrownBytes(t *testing.T) {
	d := rand.New(rand.NewSource(116))
	var told [2]int
	for range 3000 {
		n := d.Intn(200)
		if d.Intn(20) == 0 {
			n = mostBits - d.Intn(20)
		}
		b := make([]byte, bytesFor(n))
		d.Read(b)
		if d.Intn(2) == 0 && len(b) > 0 {
			b[len(b)-1] &= byte(255 << (8*len(b) - n))
		}
		lists(t, b, n)
		lists(t, b, n+d.Intn(19)-9)
		if _, ok := listOf(b, n); ok {
			told[1]++
		} else {
			told[0]++
		}
	}
	if told[0] < 500 || told[1] < 500 {
		t.Errorf("bytes that are no bits, and that are: %v", told)
	}
}

// Rules that hold everywhere, 3.

func TestBitsShareNothing(t *testing.T) {
	at := []int{0, 3, 9, 16}
	want := bitsOf(at, 17)
	b, _ := alloc.Bits(at, 17)
	other, _ := alloc.Bits(at, 17)
	l, _ := alloc.List(b, 17)
	twin, _ := alloc.List(b, 17)
	was := slices.Clone(at)
	clear(at)
	if !bytes.Equal(b, want) {
		t.Errorf("the bits turn with the numbers that were handed in: %v", b)
	}
	clear(b[:cap(b)])
	if !bytes.Equal(other, want) || !same(l, was) {
		t.Errorf("what was told, or listed, turns with what was told of the same: %v, %v", other, l)
	}
	clear(l[:cap(l)])
	if !same(twin, was) || !bytes.Equal(other, want) {
		t.Errorf("what was listed, or told, turns with what was listed of the same: %v, %v", twin, other)
	}
}
