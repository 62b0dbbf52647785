package inode_test

import (
	"bytes"
	"hanaper/api"
	"hanaper/inode"
	"math"
	"math/big"
	"math/rand"
	"slices"
	"strconv"
	"strings"
	"testing"
)

const (
	perSector = 256
	mostBytes = 96 * perSector
	mostData  = 1024
	longest   = 16
	bytesTold = 160
	signs     = "abcdefghijklmnopqrstuvwxyz0123456789.-_"
)

// mayName is Name, reckoned by the tests themselves.
func mayName(s string) bool {
	return s != "" && len(s) <= longest && strings.Trim(s, signs) == ""
}

// pagesOf is how many sectors so many bytes need, counted one by one.
func pagesOf(size int) int {
	k := 0
	for ; size > 0; size -= perSector {
		k++
	}
	return k
}

// may is whether P12.1 has such an inode, with n.
func may(x api.Inode, n int) bool {
	if n < 0 || n > mostData || x.Size < 0 || x.Size > mostBytes {
		return false
	}
	last := -1
	for _, i := range x.At {
		if i <= last || i >= n {
			return false
		}
		last = i
	}
	return mayName(x.Name) && len(x.At) == pagesOf(x.Size)
}

// numOf is a number as bytes, in the one way of tlv.
func numOf(n int) []byte {
	b := big.NewInt(int64(n)).Bytes()
	return append([]byte{byte(len(b))}, b...)
}

// bitsOf is numbers from 0 to n - 1 as bits, written as digits first.
func bitsOf(at []int, n int) []byte {
	digits := bytes.Repeat([]byte{'0'}, (n+7)/8*8)
	for _, i := range at {
		digits[i] = '1'
	}
	var b []byte
	for eight := range slices.Chunk(digits, 8) {
		v, _ := strconv.ParseUint(string(eight), 2, 8)
		b = append(b, byte(v))
	}
	return b
}

// told is a name, a size and bits, put together by hand.
func told(name string, size, bits []byte) []byte {
	return slices.Concat([]byte{1, byte(len(name))}, []byte(name), size, bits)
}

// bytesOf is Put, of an inode that may be.
func bytesOf(x api.Inode, n int) []byte {
	return told(x.Name, numOf(x.Size), bitsOf(x.At, n))
}

// row is the numbers from 0 to n - 1.
func row(n int) []int {
	all := make([]int, n)
	for i := range all {
		all[i] = i
	}
	return all
}

// file is an inode's name, size and sectors.
func file(name string, size int, at ...int) api.Inode {
	return api.Inode{Name: name, Size: size, At: at}
}

// equal is whether two inodes are the same; nil and no sectors are.
func equal(a, b api.Inode) bool {
	return a.Name == b.Name && a.Size == b.Size && len(a.At) == len(b.At) && slices.Equal(a.At, b.At)
}

// untouched hands f the list l, with others about it, and asks that all of these are as they were. One of nothing is handed in as nil too.
func untouched[E comparable](t *testing.T, what string, l []E, other E, f func(l []E)) {
	t.Helper()
	if len(l) == 0 {
		f(nil)
	}
	whole := slices.Concat([]E{other, other}, l, []E{other, other, other})
	was := slices.Clone(whole)
	f(whole[2 : 2+len(l)])
	if !slices.Equal(whole, was) {
		t.Errorf("%s: what was handed in is another one behind it", what)
	}
}

// putsTo holds Check and Put of an inode that may be against the bytes that the document asks, and Get of these against it.
func putsTo(t *testing.T, x api.Inode, n int, want []byte) {
	t.Helper()
	for _, other := range []int{-1, n, 0} {
		untouched(t, "Put", x.At, other, func(at []int) {
			t.Helper()
			x := api.Inode{Name: x.Name, Size: x.Size, At: at}
			if e := inode.Check(x, n); e != api.OK {
				t.Errorf("Check(%v, %d): %d, where it may be", x, n, e)
			}
			if b, e := inode.Put(x, n); e != api.OK || !bytes.Equal(b, want) {
				t.Errorf("Put(%v, %d): %v, %d, not %v", x, n, b, e, want)
			}
		})
	}
	if len(want) > bytesTold {
		t.Errorf("%v with %d has %d bytes", x, n, len(want))
	}
	getsTo(t, want, n, x)
}

// refuses asks that an inode may not be: ErrArg, and no bytes.
func refuses(t *testing.T, x api.Inode, n int) {
	t.Helper()
	untouched(t, "Put", x.At, 0, func(at []int) {
		t.Helper()
		x := api.Inode{Name: x.Name, Size: x.Size, At: at}
		if e := inode.Check(x, n); e != api.ErrArg {
			t.Errorf("Check(%v, %d): %d, where it may not be", x, n, e)
		}
		if b, e := inode.Put(x, n); e != api.ErrArg || len(b) != 0 {
			t.Errorf("Put(%v, %d): %v, %d, where it may not be", x, n, b, e)
		}
	})
}

// puts holds Check and Put against the tests' own reckoning, and tells whether the inode may be.
func puts(t *testing.T, x api.Inode, n int) bool {
	t.Helper()
	is := may(x, n)
	if is {
		putsTo(t, x, n, bytesOf(x, n))
	} else {
		refuses(t, x, n)
	}
	return is
}

// thrownName is a name of 1 to 16 bytes.
func thrownName(d *rand.Rand) string {
	b := make([]byte, 1+d.Intn(longest))
	for i := range b {
		b[i] = signs[d.Intn(len(signs))]
	}
	return string(b)
}

// thrown is an inode that may be, and its n: of a size that has room there.
func thrown(d *rand.Rand) (api.Inode, int) {
	n := d.Intn(mostData + 1)
	if d.Intn(2) == 0 {
		n = d.Intn(120)
	}
	size := d.Intn(min(mostBytes, n*perSector) + 1)
	at := d.Perm(n)[:pagesOf(size)]
	slices.Sort(at)
	return file(thrownName(d), size, at...), n
}

// edges are numbers of data sectors: about whole bytes, as many as a file has at most, and the least and the most.
func edges() []int {
	return []int{0, 1, 2, 7, 8, 9, 15, 16, 17, 95, 96, 97, 255, 256, 257, 800, 1016, 1017, 1023, mostData}
}

// wrongCounts are numbers of data sectors that may not be, also those whose lower bits may.
func wrongCounts() []int {
	return []int{
		-1, -2, -8, -256, -1023, -1024, -1025, -1 << 16, -1 << 32, -1<<32 + 8, -1 << 62, math.MinInt, math.MinInt + 8, math.MinInt + 1024,
		1025, 1026, 1032, 2048, 4095, 4096, 4097, 1 << 16, 1<<16 + 8, 1 << 32, 1<<32 + 8, 1<<32 + 1024, 1 << 62, math.MaxInt32, math.MaxInt - 7, math.MaxInt,
	}
}

// P12.1: Name.

func named(t *testing.T, s string, want bool) {
	t.Helper()
	if got := inode.Name(s); got != want {
		t.Errorf("Name(%q): %t, not %t", s, got, want)
	}
	if want {
		putsTo(t, file(s, 1, 2), 8, slices.Concat([]byte{1, byte(len(s))}, []byte(s), []byte{1, 1, 32}))
	} else {
		refuses(t, file(s, 1, 2), 8)
		refuses(t, file(s, 0), 0)
	}
}

func TestNamesByHand(t *testing.T) {
	if api.MaxName != longest {
		t.Fatalf("MaxName is %d", api.MaxName)
	}
	for _, s := range []string{
		"a", "z", "0", "9", ".", "-", "_", "..", "a.b-c_1", "-a", "_0", ".z", "m", "5", "abcdefghijklmnop", "qrstuvwxyz012345",
		"6789.-_.-_.-_.-_", "................", "0000000000000000", "zzzzzzzzzzzzzzz",
	} {
		named(t, s, true)
	}
	for _, s := range []string{
		"", "A", "Z", "aB", "Ab", "aAa", " ", "a b", " a", "a ", "\t", "a\n", "/", "a/b", "/a", "a/", "\x00", "a\x00", "\x00a", "é", "aé", "\x80", "\xff", "a\xff",
		"`", "{", "@", "[", ",", ":", "+", "^", "~", "a:b", "a,b", "\u017f", "\u212a", "\u0131", "\u0660", "\uff41", "\ufffd", "a\ufffd", "\xed\xa0\x80", "\xf0\x9f\x98\x80",
		"12345678901234567", "abcdefghijklmnopq", ".................", "123456789012345 ", "123456789012345A", "12345678901234\xc3\xa9",
	} {
		named(t, s, false)
	}
}

// All lengths: what has more bytes than a name is none, also where it is much longer.
func TestNamesOfAllLengths(t *testing.T) {
	for n := range 300 {
		for _, c := range []string{"a", "9", ".", "_"} {
			named(t, strings.Repeat(c, n), n >= 1 && n <= 16)
		}
		named(t, strings.Repeat("A", n), false)
	}
	for _, n := range []int{511, 512, 513, 1 << 16, 1<<16 + 1, 1<<16 + 16, 1 << 20} {
		named(t, strings.Repeat("a", n), false)
	}
	named(t, strings.Repeat("é", 8), false)
	named(t, strings.Repeat("é", 16), false)
}

// Each byte alone, and at each place of a name that may be, of the shortest and of the longest.
func TestEachByteOfNames(t *testing.T) {
	good := 0
	for c := range 256 {
		s := string([]byte{byte(c)})
		is := strings.Contains(signs, s)
		if is {
			good++
		}
		named(t, s, is)
		for _, name := range []string{"ab", "a.b-c_1", "0123456789abcdef"} {
			for i := range name {
				named(t, name[:i]+s+name[i+1:], is)
			}
		}
		named(t, "abc"+s, is)
		named(t, s+"abc", is)
		named(t, "abc"+s+"xyz", is)
		named(t, strings.Repeat("x", 15)+s, is)
		named(t, strings.Repeat("x", 16)+s, false)
	}
	if good != 26+10+3 {
		t.Errorf("%d bytes may stand in a name", good)
	}
}

func TestThrownNames(t *testing.T) {
	d := rand.New(rand.NewSource(121))
	for range 3000 {
		s := thrownName(d)
		named(t, s, true)
		b := []byte(s)
		b[d.Intn(len(b))] = byte(d.Intn(256))
		named(t, string(b), mayName(string(b)))
		b = make([]byte, d.Intn(20))
		d.Read(b)
		named(t, string(b), mayName(string(b)))
	}
}

// P12.1, P12.2: Check, Put.

func TestExample(t *testing.T) {
	putsTo(t, file("a", 1, 2), 8, []byte{1, 1, 97, 1, 1, 32})
}

func TestPutByHand(t *testing.T) {
	if api.SectorSize != perSector || api.MaxFile*api.SectorSize != mostBytes {
		t.Fatalf("SectorSize is %d, MaxFile %d", api.SectorSize, api.MaxFile)
	}
	ones, none := bytes.Repeat([]byte{255}, 12), make([]byte, 116)
	for _, c := range []struct {
		x    api.Inode
		n    int
		want []byte
	}{
		{file("a", 0), 0, []byte{1, 1, 97, 0}},
		{file("a", 0), 1, []byte{1, 1, 97, 0, 0}},
		{file("a", 0), 7, []byte{1, 1, 97, 0, 0}},
		{file("a", 0), 8, []byte{1, 1, 97, 0, 0}},
		{file("a", 0), 9, []byte{1, 1, 97, 0, 0, 0}},
		{file("a", 1, 0), 1, []byte{1, 1, 97, 1, 1, 128}},
		{file("a", 1, 0), 7, []byte{1, 1, 97, 1, 1, 128}},
		{file("a", 1, 6), 7, []byte{1, 1, 97, 1, 1, 2}},
		{file("a", 1, 7), 8, []byte{1, 1, 97, 1, 1, 1}},
		{file("a", 1, 7), 9, []byte{1, 1, 97, 1, 1, 1, 0}},
		{file("a", 1, 8), 9, []byte{1, 1, 97, 1, 1, 0, 128}},
		{file("z9", 255, 0), 8, []byte{1, 2, 122, 57, 1, 255, 128}},
		{file("-", 256, 3), 8, []byte{1, 1, 45, 2, 1, 0, 16}},
		{file("_", 257, 0, 6), 7, []byte{1, 1, 95, 2, 1, 1, 130}},
		{file("a.b-c_1", 300, 2, 5), 8, []byte{1, 7, 97, 46, 98, 45, 99, 95, 49, 2, 1, 44, 36}},
		{file("..", 512, 0, 8), 9, []byte{1, 2, 46, 46, 2, 2, 0, 128, 128}},
		{file("b", 513, 0, 1, 2), 3, []byte{1, 1, 98, 2, 2, 1, 224}},
		{file("b", 2048, 0, 1, 2, 3, 4, 5, 6, 7), 8, []byte{1, 1, 98, 2, 8, 0, 255}},
		{file("b", 1793, 0, 1, 2, 3, 4, 5, 6, 7), 8, []byte{1, 1, 98, 2, 7, 1, 255}},
		{file("b", 2049, 0, 1, 2, 3, 4, 5, 6, 7, 8), 9, []byte{1, 1, 98, 2, 8, 1, 255, 128}},
		{file("0123456789abcdef", 1, 1023), 1024, slices.Concat([]byte{1, 16}, []byte("0123456789abcdef"), []byte{1, 1}, make([]byte, 127), []byte{1})},
		{file("c", 1, 1022), 1023, slices.Concat([]byte{1, 1, 99, 1, 1}, make([]byte, 127), []byte{2})},
		{file("c", 0), 1024, slices.Concat([]byte{1, 1, 99, 0}, make([]byte, 128))},
		{file("m", 24576, row(96)...), 96, slices.Concat([]byte{1, 1, 109, 2, 96, 0}, ones)},
		{file("m", 24575, row(96)...), 96, slices.Concat([]byte{1, 1, 109, 2, 95, 255}, ones)},
		{file("m", 24576, row(96)...), 1024, slices.Concat([]byte{1, 1, 109, 2, 96, 0}, ones, none)},
		{file("m", 24576, row(1024)[928:]...), 1024, slices.Concat([]byte{1, 1, 109, 2, 96, 0}, none, ones)},
		{file("m", 24320, row(95)...), 96, slices.Concat([]byte{1, 1, 109, 2, 95, 0}, ones[1:], []byte{254})},
	} {
		if !may(c.x, c.n) || !bytes.Equal(bytesOf(c.x, c.n), c.want) {
			t.Errorf("the tests' own reckoning of %v, %d is another one", c.x, c.n)
		}
		putsTo(t, c.x, c.n, c.want)
	}
}

// P12.3: what has the most bytes. 2 and 16 of a name, 3 of a size, and 128 of bits.
func TestMostBytes(t *testing.T) {
	for _, at := range [][]int{row(96), row(1024)[928:], row(1024)[500:596]} {
		x := file("________________", mostBytes, at...)
		putsTo(t, x, mostData, bytesOf(x, mostData))
		if b, _ := inode.Put(x, mostData); len(b) != 149 || len(b) > bytesTold {
			t.Errorf("the longest inode has %d bytes", len(b))
		}
	}
}

// All sizes, with as many sectors as they need, and with one too few and one too many.
func TestAllSizes(t *testing.T) {
	sizes := append(row(1100), mostBytes, mostBytes-1, mostBytes-255, mostBytes-256, mostBytes-257, 65*perSector, 65*perSector+1)
	for _, size := range sizes {
		k := pagesOf(size)
		for _, n := range []int{k, k + 1, mostData} {
			first, last := row(n)[:k], row(n)[n-k:]
			putsTo(t, file("a", size, first...), n, bytesOf(file("a", size, first...), n))
			putsTo(t, file("b.c", size, last...), n, bytesOf(file("b.c", size, last...), n))
			if k > 0 {
				refuses(t, file("a", size, first[1:]...), n)
				refuses(t, file("a", size, first[:k-1]...), n)
			}
			refuses(t, file("a", size, row(k+1)...), n)
			refuses(t, file("a", size, row(k+1)...), mostData)
		}
	}
	d := rand.New(rand.NewSource(122))
	for range 300 {
		size := d.Intn(mostBytes + 1)
		for off := -2; off <= 2; off++ {
			k := max(pagesOf(size)+off, 0)
			puts(t, file("a", size, row(k)...), mostData)
			puts(t, file("a", size, row(mostData)[mostData-k:]...), mostData)
		}
	}
}

// Each count of data sectors at the edges: none of them, the first, the last, the first and the last, and as many as there are.
func TestEdgesOfCounts(t *testing.T) {
	for _, n := range edges() {
		if !puts(t, file("a", 0), n) || !puts(t, api.Inode{Name: "a", At: []int{}}, n) {
			t.Errorf("no sectors of %d: they may not be", n)
		}
		if n > 0 {
			puts(t, file("a", 1, 0), n)
			puts(t, file("a", perSector, n-1), n)
		}
		if n > 1 {
			puts(t, file("a", 2*perSector, 0, n-1), n)
		}
		all := file("a", n*perSector, row(n)...)
		if puts(t, all, n) != (n <= 96) {
			t.Errorf("all of %d sectors: whether they may be is another one", n)
		}
		refuses(t, file("a", 1, n), n)
		refuses(t, file("a", perSector, n+1), n)
		refuses(t, file("a", 1), n)
		refuses(t, file("a", 0, 0), n)
	}
	for n := range mostData + 1 {
		for _, i := range []int{-1, 0, n / 2, n - 1, n, n + 1} {
			puts(t, file("n", 1, i), n)
		}
	}
}

func TestThrownInodes(t *testing.T) {
	d := rand.New(rand.NewSource(123))
	for range 3000 {
		x, n := thrown(d)
		if !puts(t, x, n) {
			t.Errorf("what the tests throw may not be: %v, %d", x, n)
		}
		puts(t, x, n-1)
		puts(t, x, d.Intn(mostData+3)-1)
	}
}

// An inode that may be, of which one thing is another one.
func TestThrownInodesChanged(t *testing.T) {
	d := rand.New(rand.NewSource(124))
	var count [2]int
	for range 4000 {
		x, n := thrown(d)
		switch d.Intn(6) {
		case 0:
			x.Size += d.Intn(600) - 300
		case 1:
			x.At = append(x.At, d.Intn(n+2)-1)
		case 2:
			x.At = x.At[:max(len(x.At)-d.Intn(2), 0)]
		case 3:
			if len(x.At) > 0 {
				x.At[d.Intn(len(x.At))] += d.Intn(5) - 2
			}
		case 4:
			b := []byte(x.Name)
			b[d.Intn(len(b))] ^= byte(1 << d.Intn(8))
			x.Name = string(b)
		case 5:
			x.Name += thrownName(d)
		}
		if puts(t, x, n) {
			count[1]++
		} else {
			count[0]++
		}
	}
	if count[0] < 500 || count[1] < 500 {
		t.Errorf("inodes that may not be, and that may: %v", count)
	}
}

// Sizes that may not be, with as many sectors as they need, and as the ones of their lower bits do.
func TestWrongSizes(t *testing.T) {
	for _, size := range []int{
		-1, -2, -255, -256, -257, -24576, -1 << 16, -1<<16 + 1, -1 << 32, -1<<32 + 1, -1<<32 + 256, -1 << 62, math.MinInt, math.MinInt + 1, math.MinInt + 256, math.MinInt + 257,
		mostBytes + 1, mostBytes + 2, mostBytes + 255, mostBytes + 256, mostBytes + 257, 1 << 15, 1<<16 - 1, 1 << 16, 1<<16 + 1, 1024 * 256, 1024*256 - 1,
		1 << 32, 1<<32 + 1, 1<<32 + 257, 1 << 62, math.MaxInt32, math.MaxInt - 255, math.MaxInt - 1, math.MaxInt,
	} {
		for k := range 200 {
			refuses(t, file("a", size, row(k)...), mostData)
		}
		for _, k := range []int{255, 256, 257, 512, 1023, 1024} {
			refuses(t, file("a", size, row(k)...), mostData)
		}
		refuses(t, file("a", size), 0)
		refuses(t, api.Inode{Name: "a", Size: size, At: []int{}}, 8)
	}
}

// Counts of data sectors that may not be, with inodes that would be with another one.
func TestWrongCounts(t *testing.T) {
	for _, n := range wrongCounts() {
		for _, x := range []api.Inode{
			{}, file("a", 0), file("a", 1, 0), file("a", 1, 2), file("a", 300, 2, 5), file("a", mostBytes, row(96)...), file("a", mostBytes, row(1024)[928:]...),
			file("a", 1, n-1), file("a", 1, n), file("a", 1, n+1), file("a", 1, 1024), file("", 1, 2), file("a", -1), file("a", 300, 5, 2),
		} {
			refuses(t, x, n)
		}
	}
}

// Sectors that fall, that stand twice, that are below 0, or not below n: at the beginning, in the midst, at the end.
func TestWrongSectors(t *testing.T) {
	for _, at := range [][]int{
		{5, 2}, {5, 5}, {0, 0}, {1, 0}, {7, 6}, {7, 7}, {-1, 2}, {2, -1}, {-1, 0}, {-2, -1}, {8, 9}, {2, 8}, {8, 2}, {7, 8}, {2, 9}, {0, 256}, {2, 258},
		{math.MinInt, 2}, {2, math.MinInt}, {2, math.MaxInt}, {math.MaxInt, 2}, {0, 1 << 32}, {0, 1<<32 + 1}, {-1 << 32, 1}, {-1<<32 + 1, 2},
	} {
		refuses(t, file("a", 300, at...), 8)
		refuses(t, file("a", 512, at...), 8)
	}
	for _, n := range edges() {
		for _, k := range []int{3, 4, 96} {
			if k > n {
				continue
			}
			for _, i := range []int{0, 1, k / 2, k - 2, k - 1} {
				for _, v := range []int{-1, -256, math.MinInt, n, n + 1, n + 256, 1024, 1 << 32, math.MaxInt} {
					at := row(k)
					at[i] = v
					refuses(t, file("a", k*perSector, at...), n)
				}
				for _, from := range [][]int{row(k), row(n)[n-k:]} {
					fall, twice := slices.Clone(from), slices.Clone(from)
					j := max(i, 1)
					fall[j-1], fall[j] = fall[j], fall[j-1]
					twice[j-1] = twice[j]
					refuses(t, file("a", k*perSector, fall...), n)
					refuses(t, file("a", k*perSector, twice...), n)
				}
			}
		}
	}
}

// All lists of up to four numbers about 0 to 3, with all n about these, and the sizes about so many sectors.
func TestAllShortLists(t *testing.T) {
	var hold func(at []int)
	count := 0
	hold = func(at []int) {
		for n := -1; n <= 5; n++ {
			for k := range 6 {
				if puts(t, file("a", k*perSector, at...), n) {
					count++
				}
			}
		}
		for v := -1; v <= 4 && len(at) < 4; v++ {
			hold(append(slices.Clone(at), v))
		}
	}
	hold(nil)
	if count != 1+2+4+8+16+31 { // all sets of 0 to 5 numbers, but for the one of five
		t.Errorf("%d inodes were such as may be", count)
	}
}

// Names, sizes, sectors and numbers of data sectors, right and wrong, all with all.
func TestSeveralErrors(t *testing.T) {
	count := 0
	for _, name := range []string{"a", "", "A", "a/b", "aaaaaaaaaaaaaaaaa"} {
		for _, size := range []int{300, -1, 0, 256, 513, mostBytes + 1, math.MinInt, math.MaxInt} {
			for _, at := range [][]int{{2, 5}, nil, {2}, {5, 2}, {5, 5}, {-1, 5}, {2, 1025}, {2, 5, 6}, {math.MinInt, math.MaxInt}} {
				for _, n := range []int{8, -1, 1025, 4096, math.MinInt, math.MaxInt} {
					if puts(t, file(name, size, at...), n) {
						count++
					}
				}
			}
		}
	}
	if count != 4 { // of 8 sectors: 300 bytes in two, 0 in none, 256 in one, and 513 in three
		t.Errorf("%d of them may be", count)
	}
	refuses(t, api.Inode{}, 0)
	refuses(t, api.Inode{}, 8)
}
