package alloc_test

import (
	"bytes"
	"fmt"
	"hanaper/alloc"
	"hanaper/api"
	"math"
	"math/rand"
	"slices"
	"strings"
	"testing"
)

const size = 256

// untouched hands f the list l, with others about it, and asks that all of these are as they were. One of nothing is handed in as nil too.
func untouched[E comparable](t *testing.T, what string, l []E, other E, f func(l []E)) {
	t.Helper()
	if len(l) == 0 {
		f(nil)
	}
	whole := slices.Concat([]E{other, other}, l, []E{other, other, other, other})
	was := slices.Clone(whole)
	f(whole[2 : 2+len(l)])
	if !slices.Equal(whole, was) {
		t.Errorf("%s: what was handed in is another one behind it", what)
	}
}

// same is whether two lists are; nil and an empty one are.
func same[E comparable](a, b []E) bool {
	return len(a) == len(b) && slices.Equal(a, b)
}

// short is a list as the tests' messages show it: of a long one only the beginning and the end.
func short[E any](l []E) string {
	if len(l) > 40 {
		return fmt.Sprintf("%v .. %v of %d", l[:20], l[len(l)-10:], len(l))
	}
	return fmt.Sprint(l)
}

// usedOf is a row of whether places are used: those where the text has an x.
func usedOf(text string) []bool {
	used := make([]bool, len(text))
	for i := range text {
		used[i] = text[i] == 'x'
	}
	return used
}

// textOf is the text of which used is the row.
func textOf(used []bool) string {
	b := bytes.Repeat([]byte{'.'}, len(used))
	for i, is := range used {
		if is {
			b[i] = 'x'
		}
	}
	return string(b)
}

// freeOf is all places where the text has a point, found one behind the other.
func freeOf(text string) []int {
	var free []int
	for from := 0; ; {
		at := strings.IndexByte(text[from:], '.')
		if at < 0 {
			return free
		}
		free = append(free, from+at)
		from += at + 1
	}
}

// picksTo holds Pick against what the document asks; beside false that is none.
func picksTo(t *testing.T, used []bool, n int, want []int, ok bool) {
	t.Helper()
	for _, other := range []bool{false, true} {
		untouched(t, "Pick", used, other, func(used []bool) {
			t.Helper()
			if l, is := alloc.Pick(used, n); is != ok || !same(l, want) {
				t.Errorf("Pick(%s, %d): %s, %t, not %s, %t", short(used), n, short(l), is, short(want), ok)
			}
		})
	}
}

// picks holds Pick against the tests' own reckoning.
func picks(t *testing.T, used []bool, n int) {
	t.Helper()
	free := freeOf(textOf(used))
	if n < 0 || n > len(free) {
		picksTo(t, used, n, nil, false)
		return
	}
	picksTo(t, used, n, free[:n], true)
}

// counts holds Count against what the document asks.
func counts(t *testing.T, used []bool, want int) {
	t.Helper()
	for _, other := range []bool{false, true} {
		untouched(t, "Count", used, other, func(used []bool) {
			t.Helper()
			if n := alloc.Count(used); n != want {
				t.Errorf("Count(%s): %d, not %d", short(used), n, want)
			}
		})
	}
}

// asked are the n that a row is picked with: all about none and about as many as are free, and some between.
func asked(used []bool) []int {
	free := strings.Count(textOf(used), ".")
	return []int{-2, -1, 0, 1, 2, free / 2, free - 1, free, free + 1, free + 2, len(used) - 1, len(used), len(used) + 1}
}

// thrownUsed are up to most places, of which so many of a hundred are used.
func thrownUsed(d *rand.Rand, most, of int) []bool {
	used := make([]bool, d.Intn(most+1))
	for i := range used {
		used[i] = d.Intn(100) < of
	}
	return used
}

// P11.1: Pick, Count.

func TestPickExample(t *testing.T) {
	picksTo(t, []bool{true, false, false}, 2, []int{1, 2}, true)
}

func TestPickByHand(t *testing.T) {
	for _, c := range []struct {
		used string
		n    int
		want []int
		ok   bool
	}{
		{"x..", 0, nil, true},
		{"x..", 1, []int{1}, true},
		{"x..", 3, nil, false},
		{"x..", 4, nil, false},
		{"x..", -1, nil, false},
		{"", 0, nil, true},
		{"", 1, nil, false},
		{"", -1, nil, false},
		{".", 0, nil, true},
		{".", 1, []int{0}, true},
		{".", 2, nil, false},
		{"x", 0, nil, true},
		{"x", 1, nil, false},
		{"....", 0, nil, true},
		{"....", 1, []int{0}, true},
		{"....", 4, []int{0, 1, 2, 3}, true},
		{"....", 5, nil, false},
		{"xxxx", 0, nil, true},
		{"xxxx", 1, nil, false},
		{"xxxx", 4, nil, false},
		{".xxx", 1, []int{0}, true},
		{".xxx", 2, nil, false},
		{"xxx.", 1, []int{3}, true},
		{"xxx.", 2, nil, false},
		{".xxx.", 1, []int{0}, true},
		{".xxx.", 2, []int{0, 4}, true},
		{".xxx.", 3, nil, false},
		{"x.x.x.x.", 3, []int{1, 3, 5}, true},
		{"x.x.x.x.", 4, []int{1, 3, 5, 7}, true},
		{"x.x.x.x.", 5, nil, false},
		{"..xx..xx", 3, []int{0, 1, 4}, true},
		{"xx..xx..", 3, []int{2, 3, 6}, true},
	} {
		picksTo(t, usedOf(c.used), c.n, c.want, c.ok)
		picks(t, usedOf(c.used), c.n)
	}
}

func TestCountByHand(t *testing.T) {
	for used, want := range map[string]int{
		"": 0, ".": 0, "x": 1, "..": 0, "x.": 1, ".x": 1, "xx": 2, "x..": 1, ".x.": 1, "..x": 1,
		"x.xx": 3, "xxxxx": 5, ".....": 0, "x.x.x.x.x": 5, ".x.x.x.x.": 4,
	} {
		counts(t, usedOf(used), want)
	}
}

// None is used, all are, the first or the last place alone is free, or alone is used.
func TestRowsOfOneKind(t *testing.T) {
	for _, n := range []int{1, 2, 7, 8, 9, 255, 256, 257, 800, 1023, 1024, 1025, 1 << 16} {
		none, all := make([]bool, n), usedOf(strings.Repeat("x", n))
		counts(t, none, 0)
		counts(t, all, n)
		for _, at := range []int{0, n - 1} {
			free, taken := slices.Clone(all), slices.Clone(none)
			free[at], taken[at] = false, true
			picksTo(t, free, 1, []int{at}, true)
			picksTo(t, free, 2, nil, false)
			counts(t, free, n-1)
			counts(t, taken, 1)
			for _, used := range [][]bool{none, all, free, taken} {
				for _, n := range asked(used) {
					picks(t, used, n)
				}
			}
		}
	}
}

// All rows of up to 10 places, each with all n about what they have.
func TestAllShortRows(t *testing.T) {
	for n := range 11 {
		for v := range 1 << n {
			used := make([]bool, n)
			taken := 0
			for i := range used {
				used[i] = v>>i&1 == 1
				taken += v >> i & 1
			}
			counts(t, used, taken)
			for k := -1; k <= n+1; k++ {
				picks(t, used, k)
			}
		}
	}
}

func TestThrownRows(t *testing.T) {
	d := rand.New(rand.NewSource(11))
	for _, of := range []int{0, 1, 10, 50, 90, 99, 100} {
		for range 150 {
			used := thrownUsed(d, 1100, of)
			counts(t, used, strings.Count(textOf(used), "x"))
			for _, n := range asked(used) {
				picks(t, used, n)
			}
		}
	}
}

// Numbers below 0, and far above what there is, also those whose lower bits are few enough.
func TestPickOfWrongNumbers(t *testing.T) {
	for _, used := range [][]bool{nil, {false}, {true}, usedOf("x.."), usedOf("...."), usedOf("xxxx"), make([]bool, 300)} {
		for _, n := range []int{
			-1, -2, -3, -255, -256, -257, -1 << 31, -1 << 32, -1<<32 + 1, -1 << 62, math.MinInt, math.MinInt + 1, math.MinInt + 2,
			301, 512, 1 << 16, 1<<16 + 1, 1 << 31, 1 << 32, 1<<32 + 1, 1 << 62, math.MaxInt32, math.MaxInt, math.MaxInt - 1,
		} {
			picksTo(t, used, n, nil, false)
		}
	}
}

// P11.3: Pages, Cut.

// pagesOf is Pages, reckoned by the tests themselves.
func pagesOf(n int) int {
	pages := 0
	if n > 0 {
		pages = n / size
		if n%size > 0 {
			pages++
		}
	}
	return pages
}

func pagesAre(t *testing.T, n, want int) {
	t.Helper()
	if got := alloc.Pages(n); got != want {
		t.Errorf("Pages(%d): %d, not %d", n, got, want)
	}
}

func TestPagesByHand(t *testing.T) {
	if api.SectorSize != size {
		t.Fatalf("SectorSize is %d", api.SectorSize)
	}
	for n, want := range map[int]int{
		0: 0, 1: 1, 2: 1, 128: 1, 254: 1, 255: 1, 256: 1, 257: 2, 258: 2, 300: 2, 511: 2, 512: 2, 513: 3, 767: 3, 768: 3, 769: 4,
		24575: 96, 24576: 96, 24577: 97, 65535: 256, 65536: 256, 65537: 257, 1 << 32: 1 << 24, 1<<32 + 1: 1<<24 + 1, 1 << 62: 1 << 54,
		math.MaxInt: 1 << 55, math.MaxInt - 1: 1 << 55, math.MaxInt - 254: 1 << 55, math.MaxInt - 255: 1<<55 - 1, math.MaxInt - 256: 1<<55 - 1,
		-1: 0, -2: 0, -255: 0, -256: 0, -257: 0, -512: 0, -1 << 32: 0, -1<<32 + 1: 0,
		math.MinInt: 0, math.MinInt + 1: 0, math.MinInt + 255: 0, math.MinInt + 256: 0, math.MinInt + 257: 0,
	} {
		pagesAre(t, n, want)
	}
}

func TestPagesOfAllSizes(t *testing.T) {
	for n := -3 * size; n < 400*size; n++ {
		pagesAre(t, n, pagesOf(n))
	}
	d := rand.New(rand.NewSource(113))
	for range 20000 {
		n := d.Int() >> d.Intn(62)
		pagesAre(t, n, pagesOf(n))
		pagesAre(t, -1-n, 0)
	}
}

// text is n bytes that hang on seed, none of them 0.
func text(n, seed int) []byte {
	b := make([]byte, n)
	for i := range b {
		b[i] = byte(1 + (i*i*7+i*31+seed*101+i>>8)%255)
	}
	return b
}

// cutsTo holds Cut against what the document asks.
func cutsTo(t *testing.T, b []byte, want [][]byte) {
	t.Helper()
	untouched(t, "Cut", b, '<', func(b []byte) {
		t.Helper()
		got := alloc.Cut(b)
		if len(got) != len(want) {
			t.Fatalf("Cut(%s): %d sectors, not %d", short(b), len(got), len(want))
		}
		for i := range got {
			if !bytes.Equal(got[i], want[i]) {
				t.Errorf("Cut(%s): the sector %d is %s, not %s", short(b), i, short(got[i]), short(want[i]))
			}
		}
	})
}

// cuts holds Cut against the tests' own reckoning, and what follows of it (P11.4): so many sectors as Pages says, each of SectorSize bytes, which are b, and bytes 0.
func cuts(t *testing.T, b []byte) {
	t.Helper()
	filled := slices.Concat(b, make([]byte, pagesOf(len(b))*size-len(b)))
	cutsTo(t, b, slices.Collect(slices.Chunk(filled, size)))
	got := alloc.Cut(b)
	if len(got) != alloc.Pages(len(b)) {
		t.Errorf("Cut(%s): %d sectors, but Pages says %d", short(b), len(got), alloc.Pages(len(b)))
	}
	for i, s := range got {
		if len(s) != api.SectorSize {
			t.Errorf("Cut(%s): the sector %d has %d bytes", short(b), i, len(s))
		}
	}
	rest, begins := bytes.CutPrefix(bytes.Join(got, nil), b)
	if !begins || len(rest) >= size || strings.Trim(string(rest), "\x00") != "" {
		t.Errorf("Cut(%s): one behind the other, the sectors aren't these bytes, and bytes 0", short(b))
	}
}

func TestCutByHand(t *testing.T) {
	one := make([]byte, 256)
	one[0] = 7
	last := make([]byte, 256)
	last[254] = 9
	end := make([]byte, 256)
	end[255] = 8
	cutsTo(t, nil, nil)
	cutsTo(t, []byte{7}, [][]byte{one})
	cutsTo(t, last[:255], [][]byte{last})
	cutsTo(t, end, [][]byte{end})
	cutsTo(t, slices.Concat(end, []byte{7}), [][]byte{end, one})
	cutsTo(t, slices.Concat(end, last[:255]), [][]byte{end, last})
	cutsTo(t, slices.Concat(end, end), [][]byte{end, end})
	cutsTo(t, slices.Concat(last, one, []byte{7}), [][]byte{last, one, one})
	cutsTo(t, []byte{0}, [][]byte{make([]byte, 256)})
	cutsTo(t, make([]byte, 300), [][]byte{make([]byte, 256), make([]byte, 256)})
	cutsTo(t, bytes.Repeat([]byte{255}, 257), [][]byte{bytes.Repeat([]byte{255}, 256), append([]byte{255}, make([]byte, 255)...)})
}

// P11.3, and what P11.4 says of it.
func TestCutOfAllSizes(t *testing.T) {
	for n := range 5*size + 2 {
		cuts(t, text(n, n))
		cuts(t, make([]byte, n))
	}
	for _, n := range []int{24575, 24576, 24577, 65535, 65536, 65537, 1 << 20, 1<<20 + 1} {
		cuts(t, text(n, 3))
	}
	d := rand.New(rand.NewSource(114))
	for range 300 {
		b := make([]byte, d.Intn(100*size))
		d.Read(b)
		cuts(t, b)
	}
}

// Rules that hold everywhere, 3 and 4.

func TestPicksShareNothing(t *testing.T) {
	used := usedOf(".x..")
	a, _ := alloc.Pick(used, 3)
	b, _ := alloc.Pick(used, 3)
	used[0], used[2], used[3] = true, true, true
	if !same(a, []int{0, 2, 3}) {
		t.Errorf("what was picked turns with what was handed in: %v", a)
	}
	a = a[:cap(a)]
	for i := range a {
		a[i] = -1
	}
	if !same(b, []int{0, 2, 3}) {
		t.Errorf("two answers of Pick share their numbers: %v", b)
	}
}

// Each sector is written over, and behind what it has: neither the others turn, nor what was cut.
func TestSectorsShareNothing(t *testing.T) {
	for _, n := range []int{1, 255, 256, 257, 512, 1000} {
		b := text(n, 5)
		was := bytes.Clone(b)
		cut, other := alloc.Cut(b), alloc.Cut(b)
		for i := range cut {
			s := cut[i][:cap(cut[i])]
			for k := range s {
				s[k] = 0
			}
			for k := i + 1; k < len(cut); k++ {
				if !bytes.Equal(cut[k], other[k]) {
					t.Errorf("%d bytes: the sector %d turns with %d", n, k, i)
				}
			}
		}
		if !bytes.Equal(b, was) {
			t.Errorf("%d bytes: what was cut turns with its sectors", n)
		}
		for i := range b {
			b[i] = 0
		}
		if !bytes.Equal(bytes.Join(other, nil)[:n], was) {
			t.Errorf("%d bytes: the sectors turn with what was cut, or with another cut of it", n)
		}
		cuts(t, was)
	}
}

// The same is answered again, whatever was asked between.
func TestAgain(t *testing.T) {
	for range 3 {
		picksTo(t, usedOf("x.."), 2, []int{1, 2}, true)
		picksTo(t, usedOf("..."), 4, nil, false)
		counts(t, usedOf("x.x"), 2)
		bitsTo(t, []int{0, 9}, 10, []byte{128, 64})
		refusesBits(t, []int{9, 0}, 10)
		refusesList(t, []byte{128, 32}, 10)
		pagesAre(t, 257, 2)
		cutsTo(t, nil, nil)
		cuts(t, text(257, 1))
	}
}
