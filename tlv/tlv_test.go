package tlv_test

import (
	"bytes"
	"hanaper/tlv"
	"math"
	"strconv"
	"testing"
)

// told is bytes as the tests' messages show them.
func told(b []byte) string {
	s := "["
	for i, x := range b {
		if i > 0 {
			s += " "
		}
		s += strconv.Itoa(int(x))
	}
	return s + "]"
}

// same holds what was answered against what the document asks.
func same(t *testing.T, what string, got, want []byte) {
	t.Helper()
	if !bytes.Equal(got, want) {
		t.Errorf("%s: %s, not %s", what, told(got), told(want))
	}
}

// full is n bytes of value v.
func full(v byte, n int) []byte {
	return bytes.Repeat([]byte{v}, n)
}

// spread is numbers of all sizes: those about each bit, and some between.
func spread() []uint64 {
	l := []uint64{0}
	for k := 0; k < 64; k++ {
		p := uint64(1) << k
		l = append(l, p-1, p, p+1, p|p>>1|p>>3, p*0x9E3779B97F4A7C15)
	}
	return append(l, math.MaxUint64, math.MaxUint64-1)
}

// P1.1: Num.

func TestNumOfExamples(t *testing.T) {
	for _, c := range []struct {
		n    uint64
		want []byte
	}{
		{0, []byte{0}},
		{1, []byte{1, 1}},
		{127, []byte{1, 127}},
		{128, []byte{1, 128}},
		{255, []byte{1, 255}},
		{256, []byte{2, 1, 0}},
		{258, []byte{2, 1, 2}},
		{65535, []byte{2, 255, 255}},
		{65536, []byte{3, 1, 0, 0}},
		{0x0102030405060708, []byte{8, 1, 2, 3, 4, 5, 6, 7, 8}},
		{0x00F0000000000000, []byte{7, 0xF0, 0, 0, 0, 0, 0, 0}},
		{math.MaxUint64, []byte{8, 255, 255, 255, 255, 255, 255, 255, 255}},
	} {
		same(t, "Num "+strconv.FormatUint(c.n, 10), tlv.Num(c.n), c.want)
	}
}

func TestNumAboutEachFurtherByte(t *testing.T) {
	for k := 1; k <= 8; k++ {
		low := uint64(1) << (8 * (k - 1))
		same(t, "the least of "+strconv.Itoa(k), tlv.Num(low), append([]byte{byte(k), 1}, full(0, k-1)...))
		high := uint64(math.MaxUint64) >> (64 - 8*k)
		same(t, "the greatest of "+strconv.Itoa(k), tlv.Num(high), append([]byte{byte(k)}, full(255, k)...))
	}
}

// P1.1: Int.

func TestIntOfExamples(t *testing.T) {
	for _, c := range []struct {
		n    int
		want []byte
	}{
		{0, []byte{0}},
		{7, []byte{1, 7}},
		{256, []byte{2, 1, 0}},
		{math.MaxInt, []byte{8, 127, 255, 255, 255, 255, 255, 255, 255}},
		{math.MinInt, []byte{8, 128, 0, 0, 0, 0, 0, 0, 0}},
		{-1, []byte{8, 255, 255, 255, 255, 255, 255, 255, 255}},
		{-5, []byte{8, 255, 255, 255, 255, 255, 255, 255, 251}},
		{-256, []byte{8, 255, 255, 255, 255, 255, 255, 255, 0}},
	} {
		same(t, "Int "+strconv.Itoa(c.n), tlv.Int(c.n), c.want)
	}
}

// P1.1: Text.

func TestTextOfExamples(t *testing.T) {
	same(t, "Text of nil", tlv.Text(nil), []byte{0})
	same(t, "Text of no byte", tlv.Text([]byte{}), []byte{0})
	same(t, "Text of a", tlv.Text([]byte("a")), []byte{1, 1, 97})
	same(t, "Text of a 0", tlv.Text([]byte{0}), []byte{1, 1, 0})
	same(t, "Text of 255", tlv.Text(full(7, 255)), append([]byte{1, 255}, full(7, 255)...))
	same(t, "Text of 256", tlv.Text(full(7, 256)), append([]byte{2, 1, 0}, full(7, 256)...))
	same(t, "Text of 65536", tlv.Text(full(7, 65536)), append([]byte{3, 1, 0, 0}, full(7, 65536)...))
}

// P1.1: All.

func TestAllOfExamples(t *testing.T) {
	a, b := []byte("ab"), []byte{0, 1}
	same(t, "All of none", tlv.All(), nil)
	same(t, "All of a nil part", tlv.All(nil), nil)
	same(t, "All of empty parts", tlv.All(nil, []byte{}, nil), nil)
	same(t, "All of one", tlv.All(a), a)
	same(t, "All of two", tlv.All(a, b), []byte{97, 98, 0, 1})
	same(t, "All of two, turned", tlv.All(b, a), []byte{0, 1, 97, 98})
	same(t, "All of one twice, nil between", tlv.All(a, nil, a), []byte("abab"))
	same(t, "All of a list", tlv.All([][]byte{b, b, b}...), []byte{0, 1, 0, 1, 0, 1})
}

func TestWhatIsMadeIsNewMemory(t *testing.T) {
	whole := []byte("abcdef")
	part := whole[:2] // there is room behind it, which belongs to another
	for _, f := range []func() []byte{
		func() []byte { return tlv.Text(part) },
		func() []byte { return tlv.All(part) },
		func() []byte { return tlv.All(part, []byte("xyz")) },
		func() []byte { return tlv.All(nil, part) },
	} {
		b := f()
		same(t, "what was handed in", whole, []byte("abcdef"))
		for i := range b {
			b[i] = '!'
		}
		same(t, "what was handed in, with the answer changed", whole, []byte("abcdef"))
	}
}

// calls are all ways to ask a reader for something, each with an argument that may be.
func calls() map[string]func(r *tlv.Reader) (int, []byte) {
	return map[string]func(r *tlv.Reader) (int, []byte){
		"Num":   func(r *tlv.Reader) (int, []byte) { return int(r.Num()), nil },
		"Int":   func(r *tlv.Reader) (int, []byte) { return r.Int(), nil },
		"Count": func(r *tlv.Reader) (int, []byte) { return r.Count(math.MaxInt), nil },
		"Text":  func(r *tlv.Reader) (int, []byte) { return 0, r.Text(math.MaxInt) },
		"Take":  func(r *tlv.Reader) (int, []byte) { return 0, r.Take(1) },
		"Take0": func(r *tlv.Reader) (int, []byte) { return 0, r.Take(0) },
	}
}

// failed asks a reader that must have failed for everything.
func failed(t *testing.T, what string, r *tlv.Reader) {
	t.Helper()
	if r.Ok() || r.Left() != 0 {
		t.Errorf("%s: ok %v, left %d", what, r.Ok(), r.Left())
	}
	for name, f := range calls() {
		if n, b := f(r); n != 0 || len(b) != 0 {
			t.Errorf("%s, then %s: %d, %s", what, name, n, told(b))
		}
		if r.Ok() || r.Left() != 0 {
			t.Errorf("%s, then %s: ok %v, left %d", what, name, r.Ok(), r.Left())
		}
	}
}

// whole asks whether a reader did not fail, and how many bytes are left.
func whole(t *testing.T, what string, r *tlv.Reader, left int) {
	t.Helper()
	if !r.Ok() || r.Left() != left {
		t.Errorf("%s: ok %v, left %d, not %d", what, r.Ok(), r.Left(), left)
	}
}

// noNumbers are bytes at whose front no number stands.
func noNumbers() [][]byte {
	l := [][]byte{nil, {}, {1, 0}, {2, 0, 5}, {8, 0, 1, 2, 3, 4, 5, 6, 7}, {8, 0, 0, 0, 0, 0, 0, 0, 0}}
	for k := 1; k <= 8; k++ { // they end too soon
		for n := 0; n < k; n++ {
			l = append(l, append([]byte{byte(k)}, full(3, n)...))
		}
		l = append(l, append([]byte{byte(k), 0}, full(3, k-1)...), append([]byte{byte(k), 0}, full(0, k+5)...))
	}
	for k := 9; k <= 255; k++ { // no number needs so many
		l = append(l, []byte{byte(k)}, append([]byte{byte(k)}, full(1, 300)...), append([]byte{byte(k)}, full(0, 300)...))
	}
	return l
}

// P1.2: Num, Int.

func TestNumsAreReadInTurn(t *testing.T) {
	r := tlv.New([]byte{2, 1, 2, 0, 1, 255, 8, 255, 255, 255, 255, 255, 255, 255, 255, 9})
	for i, c := range []struct {
		n    uint64
		left int
	}{{258, 13}, {0, 12}, {255, 10}, {math.MaxUint64, 1}} {
		if n := r.Num(); n != c.n {
			t.Errorf("number %d: %d, not %d", i, n, c.n)
		}
		whole(t, "number "+strconv.Itoa(i), r, c.left)
	}
	if n := r.Num(); n != 0 {
		t.Errorf("a 9: %d", n)
	}
	failed(t, "a 9", r)
}

func TestIntsAreReadInTurn(t *testing.T) {
	ints := []int{0, 1, -1, 5, -5, 255, 256, -256, 1 << 40, -1 << 40, math.MaxInt, math.MinInt, math.MinInt + 1}
	var b []byte
	for _, n := range ints {
		b = append(b, tlv.Int(n)...)
	}
	r := tlv.New(b)
	for _, n := range ints {
		if got := r.Int(); got != n {
			t.Errorf("%d, not %d", got, n)
		}
	}
	whole(t, "behind all", r, 0)
	above := tlv.New([]byte{8, 128, 0, 0, 0, 0, 0, 0, 1}) // 2^63 + 1
	if got := above.Int(); got != math.MinInt+1 {
		t.Errorf("2^63 + 1: %d", got)
	}
}

func TestWhatIsNoNumberFails(t *testing.T) {
	for _, b := range noNumbers() {
		for name, f := range calls() {
			if name == "Take" || name == "Take0" {
				continue
			}
			r := tlv.New(b)
			if n, got := f(r); n != 0 || len(got) != 0 {
				t.Errorf("%s of %s: %d, %s", name, told(b), n, told(got))
			}
			failed(t, name+" of "+told(b), r)
		}
	}
}

// P1.2: Count.

func TestCount(t *testing.T) {
	for _, c := range []struct {
		n    uint64
		most int
		fine bool
	}{
		{0, 0, true}, {0, 5, true}, {5, 5, true}, {5, 6, true}, {300, 300, true}, {300, math.MaxInt, true},
		{math.MaxInt, math.MaxInt, true},
		{1, 0, false}, {6, 5, false}, {300, 299, false}, {math.MaxInt, math.MaxInt - 1, false},
		{1 << 63, math.MaxInt, false}, {math.MaxUint64, math.MaxInt, false}, {math.MaxUint64, 0, false},
		{0, -1, false}, {0, math.MinInt, false}, {5, -1, false}, {5, math.MinInt, false},
		{math.MaxUint64, -1, false}, {1 << 63, math.MinInt, false},
	} {
		what := "Count " + strconv.FormatUint(c.n, 10) + ", at most " + strconv.Itoa(c.most)
		r := tlv.New(tlv.All(tlv.Num(c.n), []byte{1, 1, 77}))
		got := r.Count(c.most)
		if !c.fine {
			if got != 0 {
				t.Errorf("%s: %d", what, got)
			}
			failed(t, what, r)
			continue
		}
		if got != int(c.n) {
			t.Errorf("%s: %d", what, got)
		}
		whole(t, what, r, 3)
	}
}

// P1.2: Text.

func TestTextThatIsThere(t *testing.T) {
	for _, c := range []struct{ size, most int }{
		{0, 0}, {0, 3}, {1, 1}, {2, 2}, {2, 3}, {255, 255}, {256, 256}, {300, math.MaxInt},
	} {
		what := "a text of " + strconv.Itoa(c.size) + ", at most " + strconv.Itoa(c.most)
		want := full(9, c.size)
		r := tlv.New(tlv.All(tlv.Text(want), []byte("tail")))
		same(t, what, r.Text(c.most), want)
		whole(t, what, r, 4)
		same(t, what+", the tail", r.Take(4), []byte("tail"))
	}
}

func TestTextThatIsNotThere(t *testing.T) {
	for _, c := range []struct {
		b    []byte
		most int
	}{
		{tlv.Text([]byte("abc")), 2},
		{tlv.Text([]byte("abc")), 0},
		{tlv.Text([]byte("abc")), -1},
		{tlv.Text(nil), -1},
		{tlv.Text(nil), math.MinInt},
		{[]byte{1, 3, 97, 98}, 3},
		{[]byte{1, 1}, 1},
		{[]byte{2, 1, 0, 97}, 256},
		{tlv.All(tlv.Num(math.MaxInt), []byte("abc")), math.MaxInt},
		{tlv.All(tlv.Num(math.MaxUint64), []byte("abc")), math.MaxInt},
	} {
		what := "Text of " + told(c.b) + ", at most " + strconv.Itoa(c.most)
		r := tlv.New(c.b)
		same(t, what, r.Text(c.most), nil)
		failed(t, what, r)
	}
}

// P1.2: Take.

func TestTake(t *testing.T) {
	r := tlv.New([]byte("abcde"))
	same(t, "Take 0", r.Take(0), nil)
	whole(t, "Take 0", r, 5)
	same(t, "Take 2", r.Take(2), []byte("ab"))
	whole(t, "Take 2", r, 3)
	same(t, "Take 3", r.Take(3), []byte("cde"))
	whole(t, "Take 3", r, 0)
	same(t, "Take 0 at the end", r.Take(0), nil)
	whole(t, "Take 0 at the end", r, 0)
	same(t, "Take 1 at the end", r.Take(1), nil)
	failed(t, "Take 1 at the end", r)
}

func TestTakeOfWhatIsNotThere(t *testing.T) {
	for _, n := range []int{-1, math.MinInt, 4, 5, math.MaxInt} {
		r := tlv.New([]byte("abc"))
		same(t, "Take "+strconv.Itoa(n), r.Take(n), nil)
		failed(t, "Take "+strconv.Itoa(n), r)
	}
}

// P1.2: what stands behind a failure is not read, even if it is right.
func TestNothingIsReadBehindAFailure(t *testing.T) {
	good := tlv.All(tlv.Num(7), tlv.Text([]byte("ab")), full(1, 20))
	for what, fail := range map[string]func(r *tlv.Reader){
		"a Take of too many":    func(r *tlv.Reader) { r.Take(100) },
		"a Take below 0":        func(r *tlv.Reader) { r.Take(-1) },
		"a Count above most":    func(r *tlv.Reader) { r.Count(6) },
		"a Count, most below 0": func(r *tlv.Reader) { r.Count(-1) },
		"a Text above most":     func(r *tlv.Reader) { r.Text(6) },
	} {
		r := tlv.New(good)
		fail(r)
		failed(t, what, r)
	}
}

// P1.3.

func TestOkAndLeft(t *testing.T) {
	for _, n := range []int{0, 1, 9, 1000} {
		whole(t, "a new one of "+strconv.Itoa(n), tlv.New(full(0, n)), n)
	}
	whole(t, "a new one of nil", tlv.New(nil), 0)
	r := tlv.New([]byte{1, 5, 1, 6, 7})
	r.Num()
	whole(t, "behind a number", r, 3)
	r.Text(9)
	failed(t, "behind a text that ends too soon", r)
}

func TestReaderThatNewDidNotMake(t *testing.T) {
	for name, f := range calls() {
		var none *tlv.Reader
		if n, b := f(none); n != 0 || len(b) != 0 {
			t.Errorf("%s of a nil Reader: %d, %s", name, n, told(b))
		}
		failed(t, "a nil Reader, "+name, none)
		var blank tlv.Reader
		if n, b := f(&blank); n != 0 || len(b) != 0 {
			t.Errorf("%s of a blank Reader: %d, %s", name, n, told(b))
		}
		failed(t, "a blank Reader, "+name, &blank)
	}
	for _, n := range []int{-1, math.MinInt, math.MaxInt} {
		for _, r := range []*tlv.Reader{nil, new(tlv.Reader)} {
			if len(r.Take(n)) != 0 || len(r.Text(n)) != 0 || r.Count(n) != 0 {
				t.Errorf("a Reader that New did not make, asked with %d", n)
			}
			failed(t, "asked with "+strconv.Itoa(n), r)
		}
	}
}

// Rules that hold everywhere, 3: a reader shares nothing with what it was given, nor with what it answers.

func TestReaderHasBytesOfItsOwn(t *testing.T) {
	in := tlv.All(tlv.Text([]byte("ab")), []byte("cd"), tlv.Num(300))
	kept := append([]byte(nil), in...)
	r := tlv.New(in)
	for i := range in {
		in[i] = 255
	}
	text := r.Text(5)
	same(t, "the text", text, []byte("ab"))
	text = append(text, '!', '!', '!', '!') // no room of the reader's stands behind an answer
	text[0] = '!'
	two := r.Take(2)
	same(t, "two bytes", two, []byte("cd"))
	two = append(two, '!', '!', '!')
	two[0] = '!'
	if n := r.Num(); n != 300 || !r.Ok() {
		t.Errorf("the number: %d", n)
	}
	again := tlv.New(kept)
	again.Text(5)
	again.Take(2)
	again.Num()
	same(t, "what was handed in", kept, tlv.All(tlv.Text([]byte("ab")), []byte("cd"), tlv.Num(300)))
	whole(t, "behind all", again, 0)
}

func TestReadersDoNotTouchOneAnother(t *testing.T) {
	b := tlv.All(tlv.Num(1), tlv.Num(2))
	x, y := tlv.New(b), tlv.New(b)
	x.Take(99)
	if n := y.Num(); n != 1 || !y.Ok() || y.Left() != 2 {
		t.Errorf("%d, left %d", n, y.Left())
	}
}

// P1.4.

func TestWhatWasPutIsRead(t *testing.T) {
	for _, n := range spread() {
		r := tlv.New(tlv.Num(n))
		if got := r.Num(); got != n {
			t.Errorf("Num: %d, not %d", got, n)
		}
		whole(t, "Num", r, 0)
		r = tlv.New(tlv.Int(int(n)))
		if got := r.Int(); got != int(n) {
			t.Errorf("Int: %d, not %d", got, int(n))
		}
		whole(t, "Int", r, 0)
	}
	for size := 0; size < 600; size++ {
		want := make([]byte, size)
		for i := range want {
			want[i] = byte(i*31 + size)
		}
		r := tlv.New(tlv.Text(want))
		same(t, "a text of "+strconv.Itoa(size), r.Text(size), want)
		whole(t, "Text", r, 0)
	}
}

func TestManyThatWerePutAreRead(t *testing.T) {
	numbers := spread()
	var parts [][]byte
	for i, n := range numbers {
		parts = append(parts, tlv.Num(n), tlv.Text(full(byte(i), i)), tlv.Int(-i), full(byte(n), i%5))
	}
	r := tlv.New(tlv.All(parts...))
	for i, n := range numbers {
		if got := r.Num(); got != n {
			t.Fatalf("number %d: %d, not %d", i, got, n)
		}
		same(t, "text "+strconv.Itoa(i), r.Text(i), full(byte(i), i))
		if got := r.Int(); got != -i {
			t.Fatalf("int %d: %d", i, got)
		}
		same(t, "bytes "+strconv.Itoa(i), r.Take(i%5), full(byte(n), i%5))
	}
	whole(t, "behind all", r, 0)
}

// oneWay reads b as a number: if it is one, what was gone by must be what Num makes of it.
func oneWay(t *testing.T, b []byte) bool {
	r := tlv.New(b)
	n := r.Num()
	if !r.Ok() {
		if n != 0 || r.Left() != 0 {
			t.Fatalf("%s failed: %d, left %d", told(b), n, r.Left())
		}
		return false
	}
	if gone := b[:len(b)-r.Left()]; !bytes.Equal(gone, tlv.Num(n)) {
		t.Fatalf("%s is read as %d, which is %s", told(gone), n, told(tlv.Num(n)))
	}
	return true
}

func TestNumbersHaveOneWayAlone(t *testing.T) {
	read := 0
	for a := 0; a < 256; a++ {
		for b := 0; b < 256; b++ {
			for _, c := range [][]byte{{byte(a)}, {byte(a), byte(b)}, {2, byte(a), byte(b)}, {3, byte(a), byte(b), 7}, {8, byte(a), byte(b), 0, 0, 1, 2, 3, 4}} {
				if oneWay(t, c) {
					read++
				}
			}
		}
	}
	// of one byte: the 0, 256 times; of two: the 0 and 256 behind it, and 1 with 1 to 255; of more: 255 by 256 each
	if want := 256 + (256 + 255) + 3*255*256; read != want {
		t.Errorf("%d were read, not %d", read, want)
	}
}

func FuzzReader(f *testing.F) {
	f.Add([]byte{2, 1, 2})
	f.Add([]byte{1, 0})
	f.Add([]byte{8, 255, 255, 255, 255, 255, 255, 255, 255, 0})
	f.Fuzz(func(t *testing.T, b []byte) {
		oneWay(t, b)
	})
}
