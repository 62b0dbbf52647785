package inode_test

import (
	"bytes"
	"hanaper/api"
	"hanaper/inode"
	"math"
	"math/rand"
	"slices"
	"strings"
	"testing"
)

// getsTo holds Get against the inode that the document asks; what is got, put again, is the same bytes (P12.3).
func getsTo(t *testing.T, b []byte, n int, want api.Inode) {
	t.Helper()
	for _, other := range []byte{0, 255} {
		untouched(t, "Get", b, other, func(b []byte) {
			t.Helper()
			x, e := inode.Get(b, n)
			if e != api.OK || !equal(x, want) {
				t.Errorf("Get(%v, %d): %v, %d, not %v", b, n, x, e, want)
			}
			if !inode.Same(x, want) || !inode.Same(want, x) {
				t.Errorf("%v and %v are not the same", x, want)
			}
			if again, e := inode.Put(x, n); e != api.OK || !bytes.Equal(again, b) {
				t.Errorf("%v, got and put with %d: %v, %d", b, n, again, e)
			}
		})
	}
}

// refusesGet asks that Get answers ErrText, and the zero inode.
func refusesGet(t *testing.T, b []byte, n int) {
	t.Helper()
	for _, other := range []byte{0, 255} {
		untouched(t, "Get", b, other, func(b []byte) {
			t.Helper()
			if x, e := inode.Get(b, n); e != api.ErrText || x.Name != "" || x.Size != 0 || len(x.At) != 0 {
				t.Errorf("Get(%v, %d): %v, %d, where there is none", b, n, x, e)
			}
		})
	}
}

// read is Get, reckoned by the tests themselves: what stands at the places of name, size and bits, if that is an inode whose bytes are just these.
func read(b []byte, n int) (api.Inode, bool) {
	if n < 0 || n > mostData {
		return api.Inode{}, false
	}
	rest := slices.Concat(b, make([]byte, 400)) // so that all places are there
	var x api.Inode
	x.Name = string(rest[2 : 2+int(rest[1])])
	rest = rest[2+int(rest[1]):]
	k := min(int(rest[0]), 2)
	for _, v := range rest[1 : 1+k] {
		x.Size = x.Size*256 + int(v)
	}
	rest = rest[1+k:]
	for i := range n {
		if rest[i/8]>>(7-i%8)&1 == 1 {
			x.At = append(x.At, i)
		}
	}
	return x, may(x, n) && bytes.Equal(bytesOf(x, n), b)
}

// gets holds Get against the tests' own reckoning, and tells whether there is an inode.
func gets(t *testing.T, b []byte, n int) bool {
	t.Helper()
	x, is := read(b, n)
	if is {
		getsTo(t, b, n, x)
	} else {
		refusesGet(t, b, n)
	}
	return is
}

// some are inodes that may be, and their n.
func some() map[int][]api.Inode {
	return map[int][]api.Inode{
		0:    {file("a", 0), file("0123456789abcdef", 0)},
		1:    {file("a", 0), file("b", 1, 0), file("c-d", 256, 0)},
		7:    {file("a", 0), file("b", 300, 0, 6), file("c", 7*256, row(7)...)},
		8:    {file("a", 1, 2), file("a.b-c_1", 300, 2, 5), file("b", 8*256, row(8)...)},
		9:    {file("a", 1, 8), file("b", 257, 0, 8), file("b", 9*256-255, row(9)...)},
		96:   {file("a", mostBytes, row(96)...), file("b", mostBytes-1, row(96)...), file("c", 2, 95)},
		1023: {file("a", 0), file("b", 1, 1022), file("c", mostBytes, row(1023)[1023-96:]...)},
		1024: {file("a", 0), file("b", 512, 0, 1023), file("________________", mostBytes, row(1024)[928:]...)},
	}
}

// P12.2: Get.

func TestGetByHand(t *testing.T) {
	getsTo(t, []byte{1, 1, 97, 1, 1, 32}, 8, file("a", 1, 2))
	getsTo(t, []byte{1, 1, 97, 0}, 0, file("a", 0))
	getsTo(t, []byte{1, 1, 97, 0, 0}, 1, file("a", 0))
	getsTo(t, []byte{1, 1, 97, 1, 255, 1}, 8, file("a", 255, 7))
	getsTo(t, []byte{1, 1, 97, 2, 1, 0, 1}, 8, file("a", 256, 7))
	getsTo(t, []byte{1, 1, 97, 2, 1, 1, 129}, 8, file("a", 257, 0, 7))
	getsTo(t, []byte{1, 3, 46, 45, 95, 2, 2, 1, 7}, 8, file(".-_", 513, 5, 6, 7))
}

// A name, a size and bits, each right or wrong, put together by hand.
func TestGetOfParts(t *testing.T) {
	count := 0
	for _, name := range []string{"a", "z.0", "abcdefghijklmnop", "", "A", "a b", "a/", "\x00", "é", "\xff", "abcdefghijklmnopq", strings.Repeat("a", 255)} {
		for _, size := range [][]byte{
			{0}, {1, 1}, {1, 255}, {2, 1, 0}, {2, 1, 1}, {2, 96, 0}, {2, 95, 1}, {2, 96, 1}, {2, 255, 255}, {3, 1, 0, 0}, {1, 0}, {2, 0, 1}, {3, 0, 1, 1}, {8, 0, 0, 0, 0, 0, 0, 0, 1},
			{8, 128, 0, 0, 0, 0, 0, 0, 1}, {8, 255, 255, 255, 255, 255, 255, 255, 255}, {8, 127, 255, 255, 255, 255, 255, 255, 255}, {9, 0, 0, 0, 0, 0, 0, 0, 0, 1}, {255},
		} {
			for _, bits := range [][]byte{nil, {0}, {32}, {1}, {128}, {129}, {33}, {255}, {0, 0}, {0, 128}, {32, 0}, {1, 1}, bitsOf(row(96), 96), bitsOf(row(97), 97)} {
				for _, n := range []int{0, 1, 2, 3, 7, 8, 9, 16, 96, 97, 98, 1024} {
					if gets(t, told(name, size, bits), n) {
						count++
					}
				}
			}
		}
	}
	if count == 0 {
		t.Error("none of them is an inode")
	}
}

// A name's number told as one of more bytes, and more bytes than a name has.
func TestGetOfNamesLength(t *testing.T) {
	for _, b := range [][]byte{
		nil, {0}, {0, 0}, {0, 0, 0}, {0, 1, 1, 32}, {0, 97, 1, 1, 32}, {1, 0, 1, 1, 32}, {1}, {1, 1}, {1, 2, 97}, {2, 0, 1, 97, 1, 1, 32}, {3, 0, 0, 1, 97, 1, 1, 32},
		{8, 0, 0, 0, 0, 0, 0, 0, 1, 97, 1, 1, 32}, {9, 0, 0, 0, 0, 0, 0, 0, 0, 1, 97, 1, 1, 32}, {255, 1, 97, 1, 1, 32}, {1, 255, 97, 1, 1, 32}, {2, 1, 1, 97, 1, 1, 32},
		{8, 128, 0, 0, 0, 0, 0, 0, 1, 97, 1, 1, 32}, {8, 255, 255, 255, 255, 255, 255, 255, 255, 97, 1, 1, 32}, {8, 127, 255, 255, 255, 255, 255, 255, 255, 97, 1, 1, 32},
		{8, 0, 0, 0, 1, 0, 0, 0, 1, 97, 1, 1, 32},
	} {
		for _, n := range []int{0, 1, 8, 9, 16, 24, 1024} {
			refusesGet(t, b, n)
		}
	}
}

// Sizes that are not told in their one way, that are above the most, or above 2^63 - 1: with bits for what their lower bits are too.
func TestGetOfWrongSizes(t *testing.T) {
	for _, size := range [][]byte{
		{1, 0}, {2, 0, 0}, {2, 0, 1}, {2, 0, 255}, {3, 0, 1, 0}, {3, 0, 0, 1}, {3, 0, 96, 0}, {4, 0, 0, 1, 1}, {8, 0, 0, 0, 0, 0, 0, 0, 0}, {8, 0, 0, 0, 0, 0, 0, 0, 1},
		{9, 0, 0, 0, 0, 0, 0, 0, 0, 1}, {9, 1, 0, 0, 0, 0, 0, 0, 0, 1}, {16}, {255, 1},
		{2, 96, 1}, {2, 97, 0}, {2, 97, 1}, {2, 128, 0}, {2, 255, 255}, {3, 1, 0, 0}, {3, 1, 0, 1}, {3, 4, 0, 0}, {4, 1, 0, 0, 1}, {5, 1, 0, 0, 0, 0}, {5, 1, 0, 0, 0, 1},
		{8, 127, 255, 255, 255, 255, 255, 255, 255}, {8, 128, 0, 0, 0, 0, 0, 0, 0}, {8, 128, 0, 0, 0, 0, 0, 0, 1}, {8, 255, 255, 255, 255, 255, 255, 255, 255},
	} {
		for _, n := range []int{0, 1, 8, 96, 98, 1024} {
			for k := range min(n, 130) + 1 {
				refusesGet(t, told("a", size, bitsOf(row(k), n)), n)
			}
			refusesGet(t, told("a", size, bitsOf(row(n), n)), n)
		}
	}
}

// Cut off at each place, and with a byte too many, at the end and at each place.
func TestGetOfOtherLengths(t *testing.T) {
	for n, l := range some() {
		for _, x := range l {
			b := bytesOf(x, n)
			getsTo(t, b, n, x)
			for i := range b {
				refusesGet(t, b[:i], n)
				gets(t, b[i+1:], n)
				gets(t, slices.Delete(slices.Clone(b), i, i+1), n)
				for _, v := range []byte{0, 1, 97, 255} {
					gets(t, slices.Insert(slices.Clone(b), i, v), n)
				}
			}
			for _, v := range []byte{0, 1, 128, 255} {
				refusesGet(t, append(slices.Clone(b), v), n)
			}
			refusesGet(t, append(slices.Clone(b), make([]byte, 600)...), n)
			refusesGet(t, append(slices.Clone(b), b...), n)
		}
	}
	for _, n := range edges() {
		refusesGet(t, nil, n)
	}
}

// Each byte as each other one.
func TestGetOfEachByteChanged(t *testing.T) {
	count := 0
	for n, l := range some() {
		if n > 16 {
			continue
		}
		for _, x := range l {
			b := bytesOf(x, n)
			for i := range b {
				for v := range 256 {
					c := slices.Clone(b)
					c[i] = byte(v)
					if gets(t, c, n) {
						count++
					}
				}
			}
		}
	}
	if count < 1000 {
		t.Errorf("only %d were inodes", count)
	}
}

// Bits with an n that is another one: only where they are as many bytes, and none of them is behind the n'th, is it one.
func TestGetOfOtherCounts(t *testing.T) {
	for n, l := range some() {
		for _, x := range l {
			b := bytesOf(x, n)
			for other := range mostData + 1 {
				last := -1
				if len(x.At) > 0 {
					last = x.At[len(x.At)-1]
				}
				want := (other+7)/8 == (n+7)/8 && other > last
				if gets(t, b, other) != want {
					t.Errorf("Get(%v, %d): whether there is one is another one", b, other)
				}
			}
			for _, other := range wrongCounts() {
				refusesGet(t, b, other)
			}
		}
	}
	for _, n := range wrongCounts() {
		refusesGet(t, nil, n)
		refusesGet(t, []byte{1, 1, 97, 0}, n)
		for k := range 1030 {
			refusesGet(t, told("a", []byte{0}, make([]byte, k)), n)
		}
	}
}

// One bit behind the n'th is 1: beside as many as the size asks, and instead of one of them.
func TestGetOfBitsBehindTheLast(t *testing.T) {
	for _, n := range append(edges(), 3, 4, 5, 6, 10, 11, 12, 13, 14, 1018, 1020, 1021, 1022) {
		for i := n; i < (n+7)/8*8; i++ {
			for _, at := range [][]int{nil, row(min(n, 95)), {n - 1}, {0}} {
				b := bitsOf(at, n)
				getsTo(t, told("a", numOf(len(at)*perSector), b), n, file("a", len(at)*perSector, at...))
				b[i/8] |= 128 >> (i % 8)
				refusesGet(t, told("a", numOf(len(at)*perSector), b), n)
				refusesGet(t, told("a", numOf(len(at)*perSector+1), b), n)
			}
		}
	}
}

// Bits that are fewer or more than the size asks.
func TestGetOfTooFewBitsOrTooMany(t *testing.T) {
	for _, n := range edges() {
		for k := range min(n, 100) + 1 {
			for _, size := range []int{0, 1, 255, 256, 257, 512, k*256 - 256, k*256 - 255, k * 256, k*256 + 1, 95 * 256, 95*256 + 1, mostBytes, mostBytes + 1} {
				if size < 0 {
					continue
				}
				want := pagesOf(size) == k && size <= mostBytes
				if gets(t, told("a", numOf(size), bitsOf(row(k), n)), n) != want || gets(t, told("a", numOf(size), bitsOf(row(n)[n-k:], n)), n) != want {
					t.Errorf("%d bits of %d, and %d bytes: whether there is an inode is another one", k, n, size)
				}
			}
		}
	}
}

// Thrown bytes: of no form, of the form of an inode, and inodes with some of their bytes thrown.
func TestGetOfThrownBytes(t *testing.T) {
	d := rand.New(rand.NewSource(125))
	var count [2]int
	tell := func(is bool) {
		if is {
			count[1]++
		} else {
			count[0]++
		}
	}
	for range 4000 {
		n := d.Intn(40)
		b := make([]byte, d.Intn(170))
		d.Read(b)
		tell(gets(t, b, n))
		at := make([]byte, (n+7)/8)
		d.Read(at)
		tell(gets(t, told(thrownName(d), numOf(d.Intn(n*300+2)), at), n))
		x, n := thrown(d)
		b = bytesOf(x, n)
		for range 1 + d.Intn(2) {
			b[d.Intn(len(b))] ^= byte(1 << d.Intn(8))
		}
		tell(gets(t, b, n))
	}
	if count[0] < 1000 || count[1] < 500 {
		t.Errorf("bytes that are no inode, and that are: %v", count)
	}
}

// All bytes of one kind, and all of a few bytes: none of them is an inode but by chance of its form.
func TestGetOfShortBytes(t *testing.T) {
	for v := range 256 {
		for k := range 40 {
			gets(t, bytes.Repeat([]byte{byte(v)}, k), 8)
		}
		for w := range 256 {
			refusesGet(t, []byte{byte(v), byte(w)}, 8)
			gets(t, []byte{1, 1, 97, byte(v), byte(w)}, 8)
			gets(t, []byte{1, 1, byte(v), 1, 1, byte(w)}, 8)
		}
	}
}

// P12.2: Same.

func sameIs(t *testing.T, a, b api.Inode, want bool) {
	t.Helper()
	untouched(t, "Same", a.At, 7, func(at []int) {
		t.Helper()
		untouched(t, "Same", b.At, -7, func(other []int) {
			t.Helper()
			a, b := api.Inode{Name: a.Name, Size: a.Size, At: at}, api.Inode{Name: b.Name, Size: b.Size, At: other}
			if inode.Same(a, b) != want || inode.Same(b, a) != want {
				t.Errorf("Same of %v and %v: not %t", a, b, want)
			}
		})
	})
}

// All pairs of these part in the name alone, in the size alone, in a sector, in how many there are, or in several things.
func TestSame(t *testing.T) {
	all := []api.Inode{
		{}, file("a", 0), file("a", 300, 2, 5), file("b", 300, 2, 5), file("aa", 300, 2, 5), file("", 300, 2, 5), file("a", 301, 2, 5), file("a", 299, 2, 5), file("a", 0, 2, 5),
		file("a", 300, 2, 6), file("a", 300, 1, 5), file("a", 300, 2), file("a", 300, 5), file("a", 300, 2, 5, 6), file("a", 300, 0, 2, 5), file("a", 300),
		// and such as may not be
		file("A", 300, 2, 5), file("a ", 300, 2, 5), file("a\x00", 300, 2, 5), file("\xff", 300, 2, 5), file("\xfe", 300, 2, 5), file("\ufffd", 300, 2, 5), file(strings.Repeat("a", 17), 300, 2, 5),
		file(strings.Repeat("a", 300), 300, 2, 5), file(strings.Repeat("a", 301), 300, 2, 5), file("a", -300, 2, 5), file("a", 300-1<<32, 2, 5), file("a", 300+1<<32, 2, 5),
		file("a", math.MinInt, 2, 5), file("a", math.MaxInt, 2, 5), file("a", 300, 5, 2), file("a", 300, 2, 2), file("a", 300, -2, 5), file("a", 300, 2, 5+1<<32), file("a", 300, 2, math.MinInt),
		file("a", 300, 2, math.MaxInt), file("a", 300, 2, 2000), file("a", 1), file("a", 300, row(1000)...), file("a", 300, row(1001)...), file("a", 300, append(row(1000), 1001)...),
	}
	for i, a := range all {
		for k, b := range all {
			sameIs(t, a, b, i == k)
		}
	}
}

// nil and no sectors.
func TestSameOfNoSectors(t *testing.T) {
	for _, x := range []api.Inode{{}, file("a", 0), file("a", 300), file("A", -1)} {
		none, empty, room := x, x, x
		none.At, empty.At, room.At = nil, []int{}, make([]int, 0, 5)
		for _, a := range []api.Inode{none, empty, room} {
			for _, b := range []api.Inode{none, empty, room} {
				sameIs(t, a, b, true)
			}
			sameIs(t, a, file(x.Name, x.Size, 0), false)
		}
	}
}

func TestSameOfThrownInodes(t *testing.T) {
	d := rand.New(rand.NewSource(126))
	for range 2000 {
		x, _ := thrown(d)
		y, _ := thrown(d)
		sameIs(t, x, y, equal(x, y))
		y = file(x.Name, x.Size, slices.Clone(x.At)...)
		sameIs(t, x, y, true)
		switch k := d.Intn(len(y.At) + 3); k {
		case 0:
			y.Name = y.Name[1:]
		case 1:
			y.Size++
		case 2:
			y.At = append(y.At, d.Intn(2000))
		default:
			y.At[k-3] ^= 1 << d.Intn(62)
		}
		sameIs(t, x, y, false)
	}
}

// P12.3, and rules that hold everywhere, 3 and 4.

func TestPutShareNothing(t *testing.T) {
	x := file("ab", 300, 2, 5)
	want := []byte{1, 2, 97, 98, 2, 1, 44, 36}
	a, _ := inode.Put(x, 8)
	b, _ := inode.Put(x, 8)
	x.At[0], x.At[1] = 0, 0
	if !bytes.Equal(a, want) {
		t.Errorf("what was put turns with what was handed in: %v", a)
	}
	a = a[:cap(a)]
	for i := range a {
		a[i] = 7
	}
	if !bytes.Equal(b, want) {
		t.Errorf("two answers of Put share their bytes: %v", b)
	}
}

func TestGotShareNothing(t *testing.T) {
	want := file("ab", 300, 2, 5)
	b := []byte{1, 2, 97, 98, 2, 1, 44, 36}
	x, _ := inode.Get(b, 8)
	y, _ := inode.Get(b, 8)
	for i := range b {
		b[i] = 0
	}
	if !equal(x, want) {
		t.Errorf("what was got turns with what was handed in: %v", x)
	}
	at := x.At[:cap(x.At)]
	for i := range at {
		at[i] = -1
	}
	if !equal(y, want) {
		t.Errorf("two answers of Get share their sectors: %v", y)
	}
}

// The same is answered again, whatever was asked between.
func TestAgain(t *testing.T) {
	for range 3 {
		putsTo(t, file("a", 1, 2), 8, []byte{1, 1, 97, 1, 1, 32})
		refuses(t, file("A", 1, 2), 8)
		refuses(t, file("a", 1, 2), 2)
		refusesGet(t, []byte{1, 1, 97, 1, 1, 32}, 2)
		refusesGet(t, []byte{1, 1, 97, 1, 1, 33}, 8)
		putsTo(t, file("b", 0), 8, []byte{1, 1, 98, 0, 0})
	}
}
