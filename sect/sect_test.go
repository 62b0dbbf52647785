package sect_test

import (
	"bytes"
	"fmt"
	"hanaper/api"
	"hanaper/sect"
	"math"
	"math/rand"
	"slices"
	"testing"
)

const (
	size   = 256
	marked = 252 // bytes of a sector that its mark is of
	most   = 249
	p      = 8191
)

// pair is a number as two ints from 0 to p - 1, which the tests reckon with by themselves.
type pair struct{ re, im int }

// bytes are a's parts, two bytes each, the higher one first.
func (a pair) bytes() []byte {
	return []byte{byte(a.re / 256), byte(a.re % 256), byte(a.im / 256), byte(a.im % 256)}
}

// weights are the powers of 4 + i by which the bytes of a sector count: the 0th for the last byte that is marked.
func weights() [marked]pair {
	var w [marked]pair
	w[marked-1] = pair{1, 0}
	for i := marked - 2; i >= 0; i-- {
		a := w[i+1]
		w[i] = pair{(4*a.re - a.im + p) % p, (a.re + 4*a.im) % p}
	}
	return w
}

var weight = weights()

// markOf is the mark of b, which has no more than marked bytes, as a sum over its places.
func markOf(b []byte) pair {
	re, im := 0, 0
	last := weight[marked-len(b):]
	for i, x := range b {
		re += (int(x) + 1) * last[i].re
		im += (int(x) + 1) * last[i].im
	}
	return pair{re % p, im % p}
}

// sealed is the first bytes of s, as many as are marked, with their mark.
func sealed(s []byte) []byte {
	return slices.Concat(s[:marked], markOf(s[:marked]).bytes())
}

// laid is the sector that P9.1 asks for of a kind and a body that may be.
func laid(kind int, body []byte) []byte {
	return sealed(slices.Concat([]byte{byte(kind), byte(len(body) / 256), byte(len(body) % 256)}, body, make([]byte, size)))
}

// nought is whether all of b are 0.
func nought(b []byte) bool {
	for _, x := range b {
		if x != 0 {
			return false
		}
	}
	return true
}

// reckoned is what P9.2 asks for of s, by the places of P9.1.
func reckoned(s []byte) (int, []byte, api.Errno) {
	switch {
	case len(s) != size:
		return 0, nil, api.ErrArg
	case nought(s):
		return 0, nil, api.ErrNone
	}
	n := int(s[1])*256 + int(s[2])
	if s[0] == 0 || n > most || !nought(s[3+n:marked]) || !bytes.Equal(s[marked:], markOf(s[:marked]).bytes()) {
		return 0, nil, api.ErrBad
	}
	return int(s[0]), s[3 : 3+n], api.OK
}

// short is bytes as the tests' messages show them: of many only the beginning and the end.
func short(b []byte) string {
	if len(b) > 24 {
		return fmt.Sprintf("%x .. %x of %d", b[:12], b[len(b)-8:], len(b))
	}
	return fmt.Sprintf("%x of %d", b, len(b))
}

// untouched hands f the bytes b, with others about them, and asks that all of these are as they were.
func untouched(t *testing.T, what string, b []byte, f func(b []byte)) {
	t.Helper()
	if b == nil {
		f(nil)
		return
	}
	whole := slices.Concat([]byte("<<"), b, []byte(">>>>"))
	was := bytes.Clone(whole)
	f(whole[2 : 2+len(b)])
	if !bytes.Equal(whole, was) {
		t.Errorf("%s of %s: what was handed in is %s behind it", what, short(b), short(whole))
	}
}

// puts holds Put of a kind and a body that may be against the sector that the document asks, and what is got of this against these.
func puts(t *testing.T, kind int, body []byte) {
	t.Helper()
	putsTo(t, kind, body, laid(kind, body))
}

// putsTo is puts, with the sector.
func putsTo(t *testing.T, kind int, body, want []byte) {
	t.Helper()
	untouched(t, "Put", body, func(b []byte) {
		t.Helper()
		if s, e := sect.Put(kind, b); e != api.OK || !bytes.Equal(s, want) {
			t.Errorf("Put(%d, %s): %s, error %d, not %s", kind, short(body), short(s), e, short(want))
		}
	})
	getsTo(t, want, kind, body, api.OK)
}

// refuses holds Put of what may not be against the error that the document asks.
func refuses(t *testing.T, kind int, body []byte, want api.Errno) {
	t.Helper()
	untouched(t, "Put", body, func(b []byte) {
		t.Helper()
		if s, e := sect.Put(kind, b); e != want || len(s) != 0 {
			t.Errorf("Put(%d, %s): %s, error %d, not %d", kind, short(body), short(s), e, want)
		}
	})
}

// gets holds Get of s against the tests' own reckoning, and tells the error.
func gets(t *testing.T, s []byte) api.Errno {
	t.Helper()
	kind, body, e := reckoned(s)
	getsTo(t, s, kind, body, e)
	return e
}

// getsTo holds Get of s against what the document asks, and, if it is a sector, that it is the one that is put again (P9.3).
func getsTo(t *testing.T, s []byte, kind int, body []byte, want api.Errno) {
	t.Helper()
	untouched(t, "Get", s, func(b []byte) {
		t.Helper()
		k, got, e := sect.Get(b)
		if k != kind || !bytes.Equal(got, body) || e != want {
			t.Errorf("Get(%s): %d, %s, error %d, not %d, %s, error %d", short(s), k, short(got), e, kind, short(body), want)
		}
		if e != api.OK {
			return
		}
		if again, f := sect.Put(k, got); f != api.OK || !bytes.Equal(again, s) {
			t.Errorf("what was got of %s is put as %s, error %d", short(s), short(again), f)
		}
	})
}

// getsNone asks that s is not got as OK, but as the error.
func getsNone(t *testing.T, s []byte, want api.Errno) {
	t.Helper()
	getsTo(t, s, 0, nil, want)
}

// text is n bytes that hang on seed.
func text(n, seed int) []byte {
	b := make([]byte, n)
	for i := range b {
		b[i] = byte(i*i*7 + i*31 + seed*101 + i>>8)
	}
	return b
}

// with is s with the byte at a place another one.
func with(s []byte, at int, v byte) []byte {
	c := bytes.Clone(s)
	c[at] = v
	return c
}

// thrown are n bytes that d throws.
func thrown(d *rand.Rand, n int) []byte {
	b := make([]byte, n)
	d.Read(b)
	return b
}

// P9.1: Put.

func TestMaxBody(t *testing.T) {
	if sect.MaxBody != most || api.SectorSize != size {
		t.Errorf("MaxBody %d, SectorSize %d", sect.MaxBody, api.SectorSize)
	}
}

func TestExample(t *testing.T) {
	want := make([]byte, size)
	want[0] = 1
	copy(want[252:], []byte{0, 135, 5, 219})
	putsTo(t, 1, nil, want)
	putsTo(t, 1, []byte{}, want)
}

func TestByHand(t *testing.T) {
	for _, c := range []struct {
		kind       int
		body       []byte
		head, tail []byte // the first and the last bytes; those between are 0
	}{
		{2, nil, []byte{2, 0, 0}, []byte{7, 228, 1, 196}},
		{255, nil, []byte{255, 0, 0}, []byte{15, 7, 22, 232}},
		{1, []byte{0}, []byte{1, 0, 1, 0}, []byte{10, 138, 23, 181}},
		{3, []byte{1}, []byte{3, 0, 1, 1}, []byte{6, 22, 24, 201}},
		{5, []byte("body"), []byte{5, 0, 4, 98, 111, 100, 121}, []byte{9, 27, 25, 247}},
		{2, []byte{0, 7, 0, 7, 0, 7, 0, 7, 0, 7, 0, 7, 0, 7, 0, 7}, []byte{2, 0, 16, 0, 7, 0, 7, 0, 7, 0, 7, 0, 7, 0, 7, 0, 7, 0, 7}, []byte{7, 122, 8, 182}},
		{1, make([]byte, 249), []byte{1, 0, 249}, []byte{29, 191, 3, 112}},
		{255, make([]byte, 249), []byte{255, 0, 249}, []byte{12, 64, 20, 125}},
		{3, append(make([]byte, 248), 1), []byte{3, 0, 249}, []byte{1, 12, 123, 27, 65}},
	} {
		want := slices.Concat(c.head, make([]byte, 256-len(c.head)-len(c.tail)), c.tail)
		putsTo(t, c.kind, c.body, want)
		puts(t, c.kind, c.body)
	}
}

func TestFullByHand(t *testing.T) {
	ones := bytes.Repeat([]byte{255}, 249)
	putsTo(t, 1, ones, slices.Concat([]byte{1, 0, 249}, ones, []byte{2, 182, 26, 4}))
	putsTo(t, 255, ones, slices.Concat([]byte{255, 0, 249}, ones, []byte{17, 54, 11, 18}))
	rising := make([]byte, 249)
	for i := range rising {
		rising[i] = byte(i)
	}
	putsTo(t, 4, rising, slices.Concat([]byte{4, 0, 249}, rising, []byte{19, 128, 5, 136}))
}

// edgeMarks are bodies of five bytes whose sectors, of the kind 1, have marks with parts that are 0, or 8190, or pass 255.
func edgeMarks() map[pair][]byte {
	return map[pair][]byte{
		{0, 0}:       {0, 84, 199, 1, 13},
		{8190, 8190}: {57, 114, 3, 2, 13},
		{0, 8190}:    {51, 82, 13, 5, 10},
		{8190, 0}:    {0, 165, 79, 15, 16},
		{256, 255}:   {0, 185, 251, 214, 7},
		{255, 256}:   {3, 50, 5, 6, 16},
	}
}

func TestEdgesOfMarks(t *testing.T) {
	for m, body := range edgeMarks() {
		putsTo(t, 1, body, slices.Concat([]byte{1, 0, 5}, body, make([]byte, 244), m.bytes()))
		puts(t, 1, body)
	}
}

// All kinds, and all sizes, of bodies of bytes 0, of bytes 255, and of others.
func TestAllSizesAndKinds(t *testing.T) {
	for n := range most + 1 {
		for _, kind := range []int{1, 2, 127, 128, 254, 255, 1 + n} {
			puts(t, kind, make([]byte, n))
			puts(t, kind, bytes.Repeat([]byte{255}, n))
			puts(t, kind, text(n, kind))
			puts(t, kind, append(make([]byte, n), 0, 0, 9)[:n]) // with room behind it, which is no part of it
		}
	}
	for kind := 1; kind <= 255; kind++ {
		for _, n := range []int{0, 1, 2, most - 1, most} {
			puts(t, kind, text(n, n))
		}
	}
	puts(t, 1, nil)
	puts(t, 255, nil)
}

// Each byte, alone and at the ends of a body.
func TestEachByte(t *testing.T) {
	for v := range 256 {
		puts(t, 1, []byte{byte(v)})
		for _, n := range []int{2, 100, most} {
			puts(t, 9, with(make([]byte, n), 0, byte(v)))
			puts(t, 9, with(make([]byte, n), n-1, byte(v)))
			puts(t, 9, with(text(n, 1), n/2, byte(v)))
		}
	}
}

func TestThrownBodies(t *testing.T) {
	d := rand.New(rand.NewSource(9))
	for range 20000 {
		puts(t, 1+d.Intn(255), thrown(d, d.Intn(most+1)))
	}
}

// wrongKinds are kinds that may not be, and of which a byte of them may be.
func wrongKinds() []int {
	return []int{0, 256, -1, 257, 511, 512, -2, -255, -256, -257, 1 << 16, 1<<16 + 1, 1 << 32, 1<<32 + 1, 1 << 62, math.MaxInt32, math.MinInt32, math.MaxInt, math.MaxInt - 1, math.MinInt, math.MinInt + 1}
}

// longBodies are sizes that are too great, and of which the lower bytes are not.
func longBodies() []int {
	return []int{most + 1, 251, 252, 253, 255, 256, 257, 256 + most, 256 + most + 1, 511, 512, 65535, 65536, 65537, 65536 + most, 1 << 20}
}

func TestWrongKinds(t *testing.T) {
	for _, kind := range wrongKinds() {
		for _, body := range [][]byte{nil, {}, {0}, []byte("body"), make([]byte, most-1), bytes.Repeat([]byte{255}, most)} {
			refuses(t, kind, body, api.ErrArg)
		}
	}
}

func TestLongBodies(t *testing.T) {
	for _, n := range longBodies() {
		for _, kind := range []int{1, 2, 128, 255} {
			refuses(t, kind, make([]byte, n), api.ErrLong)
			refuses(t, kind, bytes.Repeat([]byte{255}, n), api.ErrLong)
			refuses(t, kind, text(n, 3), api.ErrLong)
		}
	}
}

// Several errors at once: the kind's is the first one.
func TestWrongKindsOfLongBodies(t *testing.T) {
	for _, kind := range wrongKinds() {
		for _, n := range longBodies() {
			refuses(t, kind, text(n, n), api.ErrArg)
		}
	}
}

// P9.2: Get, Zero, Empty.

// wrongSizes are numbers of bytes that no sector has.
func wrongSizes() []int {
	return []int{1, 2, 3, 4, 7, 128, 249, 250, 252, 253, size - 2, size - 1, size + 1, size + 2, 2*size - 1, 2 * size, 2*size + 1, 65536, 65536 + size}
}

func TestGetOfWrongSizes(t *testing.T) {
	getsNone(t, nil, api.ErrArg)
	getsNone(t, []byte{}, api.ErrArg)
	right := laid(7, text(most, 7))
	for _, n := range wrongSizes() {
		getsNone(t, make([]byte, n), api.ErrArg)
		getsNone(t, bytes.Repeat([]byte{255}, n), api.ErrArg)
		getsNone(t, bytes.Repeat(right, 1+n/size)[:n], api.ErrArg)
		getsNone(t, append(bytes.Clone(right), make([]byte, 65536+size)...)[:n], api.ErrArg)
	}
	getsNone(t, right[1:], api.ErrArg)
	getsNone(t, append([]byte{0}, right...), api.ErrArg)
}

// isEmpty holds Empty against what the document asks.
func isEmpty(t *testing.T, s []byte, want bool) {
	t.Helper()
	untouched(t, "Empty", s, func(b []byte) {
		t.Helper()
		if sect.Empty(b) != want {
			t.Errorf("Empty(%s): %t", short(s), !want)
		}
	})
}

func TestEmptyOfWrongSizes(t *testing.T) {
	isEmpty(t, nil, false)
	isEmpty(t, []byte{}, false)
	for _, n := range wrongSizes() {
		isEmpty(t, make([]byte, n), false)
		isEmpty(t, bytes.Repeat([]byte{255}, n), false)
		isEmpty(t, append(make([]byte, n-1), 1), false)
	}
}

func TestZero(t *testing.T) {
	z := sect.Zero()
	if !bytes.Equal(z, make([]byte, 256)) {
		t.Errorf("Zero: %s", short(z))
	}
	for _, s := range [][]byte{z, make([]byte, 256), make([]byte, 1000)[:256], append(make([]byte, 256), 1)[:256]} {
		isEmpty(t, s, true)
		getsNone(t, s, api.ErrNone)
	}
}

// All bytes 0 but one, for each place, and each byte.
func TestAllZeroButOne(t *testing.T) {
	for at := range size {
		for v := 1; v < 256; v++ {
			s := with(make([]byte, size), at, byte(v))
			isEmpty(t, s, false)
			getsNone(t, s, api.ErrBad)
		}
	}
}

// What Put makes is not empty.
func TestSectorsAreNotEmpty(t *testing.T) {
	for _, body := range [][]byte{nil, {0}, make([]byte, most), edgeMarks()[pair{0, 0}], text(100, 1)} {
		for _, kind := range []int{1, 128, 255} {
			s, _ := sect.Put(kind, body)
			isEmpty(t, s, false)
		}
	}
}

// Each number that the length bytes may say, with a mark that is right.
func TestAllLengthBytes(t *testing.T) {
	for n := range 65536 {
		s := sealed(slices.Concat([]byte{6, byte(n / 256), byte(n % 256)}, make([]byte, size)))
		if n > most {
			getsNone(t, s, api.ErrBad)
			continue
		}
		getsTo(t, s, 6, make([]byte, n), api.OK)
	}
}

func TestLengthBytes(t *testing.T) {
	full := slices.Concat([]byte{6, 0, 0}, text(most, 6), make([]byte, 4))
	for _, l := range [][2]byte{{0, 250}, {0, 251}, {0, 252}, {0, 253}, {0, 255}, {1, 0}, {1, 1}, {1, 249}, {2, 0}, {128, 0}, {249, 0}, {255, 0}, {255, 249}, {255, 255}} {
		copy(full[1:], l[:])
		getsNone(t, sealed(full), api.ErrBad)
		getsNone(t, full, api.ErrBad)
	}
	copy(full[1:], []byte{0, 249})
	getsTo(t, sealed(full), 6, text(most, 6), api.OK)
	// Of less, what is behind the body is not 0.
	for n := range most {
		full[2] = byte(n)
		getsNone(t, sealed(full), api.ErrBad)
	}
}

// A byte behind the body that is not 0, with a mark that is right.
func TestBytesBehindTheBody(t *testing.T) {
	for n := range most {
		s := laid(8, text(n, n))
		for at := 3 + n; at < marked; at++ {
			for _, v := range []byte{1, 255, byte(1 + (n+at)%255)} {
				getsNone(t, sealed(with(s, at, v)), api.ErrBad)
			}
		}
	}
}

// A kind of 0, with a mark that is right.
func TestKindZero(t *testing.T) {
	getsNone(t, sealed(make([]byte, size)), api.ErrBad)
	for n := range most + 1 {
		for _, body := range [][]byte{make([]byte, n), bytes.Repeat([]byte{255}, n), text(n, n)} {
			getsNone(t, laid(0, body), api.ErrBad)
		}
	}
}

// A mark of the same number, whose bytes are none below the field's.
func TestMarksBeyondTheField(t *testing.T) {
	bodies := [][]byte{nil, {0}, []byte("body"), text(100, 2), text(most, 3), bytes.Repeat([]byte{255}, most)}
	for _, body := range edgeMarks() {
		bodies = append(bodies, body)
	}
	for _, body := range bodies {
		s := laid(1, body)
		m := markOf(s[:marked])
		for re := m.re; re < 65536; re += p {
			for im := m.im; im < 65536; im += p {
				copy(s[marked:], pair{re, im}.bytes())
				if re < p && im < p {
					getsTo(t, s, 1, body, api.OK)
				} else {
					getsNone(t, s, api.ErrBad)
				}
			}
		}
	}
}

// Marks of what is another one, and the right one's bytes in another order.
func TestWrongMarks(t *testing.T) {
	for _, body := range [][]byte{nil, []byte("body"), text(most, 1)} {
		s := laid(3, body)
		m := bytes.Clone(s[marked:])
		for _, wrong := range [][]byte{
			{0, 0, 0, 0},
			{255, 255, 255, 255},
			{m[2], m[3], m[0], m[1]},
			{m[1], m[0], m[3], m[2]},
			{m[3], m[2], m[1], m[0]},
			{m[0], m[1], m[0], m[1]},
			markOf(laid(4, body)[:marked]).bytes(),
			markOf(s[:marked-1]).bytes(),
			markOf(s[1:marked]).bytes(),
			markOf(s[:3+len(body)-1]).bytes(),
			markOf(body).bytes(),
			pair{(markOf(s[:marked]).re + 1) % p, markOf(s[:marked]).im}.bytes(),
			pair{markOf(s[:marked]).re, (markOf(s[:marked]).im + p - 1) % p}.bytes(),
		} {
			copy(s[marked:], wrong)
			getsNone(t, s, api.ErrBad)
		}
		copy(s[marked:], m)
		getsTo(t, s, 3, body, api.OK)
	}
}

// Thrown bytes, most of which are no sector.
func TestThrownBytes(t *testing.T) {
	d := rand.New(rand.NewSource(92))
	for range 20000 {
		s := thrown(d, size)
		gets(t, s)
		gets(t, sealed(s))
		gets(t, sealed(with(with(s, 1, 0), 2, byte(most))))
	}
}

// thrownAlmost is a sector, or what is one but for a thing or two.
func thrownAlmost(d *rand.Rand) []byte {
	n := d.Intn(most + 1)
	s := laid(1+d.Intn(255), thrown(d, n))
	if d.Intn(3) == 0 {
		s[0] = byte(d.Intn(2))
	}
	if d.Intn(3) == 0 {
		s[1] = byte(d.Intn(2))
	}
	if d.Intn(3) == 0 {
		s[2] = byte(n + d.Intn(5) - 2)
	}
	if d.Intn(3) == 0 {
		s[3+d.Intn(marked-3)] = byte(d.Intn(3))
	}
	if d.Intn(4) > 0 {
		s = sealed(s)
	}
	if d.Intn(4) == 0 {
		s[marked+d.Intn(4)] += byte(d.Intn(3))
	}
	return s
}

func TestThrownAlmost(t *testing.T) {
	d := rand.New(rand.NewSource(93))
	var told [18]int
	for range 60000 {
		told[gets(t, thrownAlmost(d))]++
	}
	if told[api.OK] < 5000 || told[api.ErrBad] < 5000 {
		t.Errorf("of each error: %v", told)
	}
}

// P9.3: no other sector is got. A change at three places that the mark does not tell, as Base is a root of xx - 8x + 17: what is got then is another body, or nothing.
func TestChangesThatTheMarkDoesNotTell(t *testing.T) {
	change := func(s []byte, at int) []byte {
		c := bytes.Clone(s)
		c[at], c[at+1], c[at+2] = c[at]+1, c[at+1]-8, c[at+2]+17
		if !bytes.Equal(sealed(c), c) {
			t.Fatalf("at %d of %s: the mark tells it", at, short(s))
		}
		return c
	}
	for _, n := range []int{3, 4, 20, 100, most - 1, most} {
		body := bytes.Repeat([]byte{100}, n)
		s := laid(5, body)
		for at := range n - 2 {
			c := change(s, 3+at)
			getsTo(t, c, 5, c[3:3+n], api.OK)
		}
		if n == most {
			continue
		}
		getsNone(t, change(s, 3+n-2), api.ErrBad) // reaches a byte behind the body
		longer := change(s, 2)
		getsTo(t, longer, 5, longer[3:3+n+1], api.OK) // a byte 0 more
		s[3] = 200
		s = sealed(s)
		if n >= 8 {
			getsNone(t, change(s, 1), api.ErrBad) // 256 bytes more, 8 less
		}
	}
	getsNone(t, change(laid(5, append(make([]byte, 10), 9, 9)), 3+10), api.ErrBad)
}

// Two bytes, one of them of the mark: what is got is what Put makes of the other body.
func TestLastByteAndItsMark(t *testing.T) {
	for v := range 256 {
		s := laid(2, with(text(most, 4), most-1, byte(v)))
		getsTo(t, s, 2, s[3:marked], api.OK)
		c := with(s, marked-1, s[marked-1]+1)
		getsNone(t, c, api.ErrBad)
		getsTo(t, sealed(c), 2, c[3:marked], api.OK)
	}
}

// P9.4.

// sectors are some, of few bytes and of many.
func sectors() [][]byte {
	return [][]byte{
		laid(1, nil),
		laid(5, []byte("body")),
		laid(255, bytes.Repeat([]byte{255}, most)),
		laid(3, make([]byte, most)),
		laid(1, edgeMarks()[pair{0, 0}]),
		laid(2, text(120, 8)),
	}
}

// spoilt asks that s, which is no sector any more, is not got as OK.
func spoilt(t *testing.T, s []byte) {
	t.Helper()
	want := api.ErrBad
	if nought(s) {
		want = api.ErrNone
	}
	if k, b, e := sect.Get(s); e != want || k != 0 || len(b) != 0 {
		t.Fatalf("Get(%s): %d, %s, error %d, not %d", short(s), k, short(b), e, want)
	}
}

// beside does f with each of l, all at the same time: they are many.
func beside[E any](t *testing.T, l []E, f func(t *testing.T, n int, v E)) {
	for n, v := range l {
		t.Run(fmt.Sprint(n), func(t *testing.T) {
			t.Parallel()
			f(t, n, v)
		})
	}
}

// Each one byte, in all its ways.
func TestOneByte(t *testing.T) {
	beside(t, sectors(), func(t *testing.T, n int, s []byte) {
		gets(t, s)
		for at := range s {
			was := s[at]
			for x := 1; x < 256; x++ {
				s[at] = was ^ byte(x)
				spoilt(t, s)
			}
			s[at] = was
		}
	})
}

// All pairs of the first 252, in some of their ways.
func TestTwoBytes(t *testing.T) {
	beside(t, sectors(), func(t *testing.T, n int, s []byte) {
		for i := range marked {
			for k := range i {
				a, b := s[i], s[k]
				for _, x := range [][2]byte{{1, 1}, {255, 255}, {byte(1 + (i+n)%255), byte(1 + k%255)}} {
					s[i], s[k] = a^x[0], b^x[1]
					spoilt(t, s)
				}
				// Of the last two these change one part of the mark alone.
				s[k], s[i] = b+1, a-4
				spoilt(t, s)
				s[i], s[k] = a, b
			}
		}
	})
}

// Two that change places.
func TestTwoBytesChangePlaces(t *testing.T) {
	s := laid(2, text(most, 8))
	for i := range marked {
		for k := range i {
			s[i], s[k] = s[k], s[i]
			if s[i] != s[k] {
				spoilt(t, s)
			}
			s[i], s[k] = s[k], s[i]
		}
	}
}

// Some pairs, in all their ways.
func TestTwoBytesInAllWays(t *testing.T) {
	places := [][2]int{{0, 2}, {1, 2}, {2, 122}, {2, 123}, {60, 61}, {122, 123}, {3, 251}}
	beside(t, places, func(t *testing.T, n int, at [2]int) {
		s := laid(2, text(120, 8))
		a, b := s[at[0]], s[at[1]]
		for x := 1; x < 256; x++ {
			for y := 1; y < 256; y++ {
				s[at[0]], s[at[1]] = a^byte(x), b^byte(y)
				spoilt(t, s)
			}
		}
	})
}

func TestThrownPairs(t *testing.T) {
	d := rand.New(rand.NewSource(94))
	for range 500 {
		s := laid(1+d.Intn(255), thrown(d, d.Intn(most+1)))
		for range 100 {
			i, k := d.Intn(marked), d.Intn(marked)
			if i == k {
				continue
			}
			c := with(with(s, i, s[i]^byte(1+d.Intn(255))), k, s[k]^byte(1+d.Intn(255)))
			spoilt(t, c)
		}
	}
}

// Rules that hold everywhere, 3 and 4.

// spoil writes to all of b, and behind what it has.
func spoil(b []byte) {
	b = b[:cap(b)]
	for i := range b {
		b[i] ^= 255
	}
}

func TestNothingIsShared(t *testing.T) {
	for _, n := range []int{0, 1, 100, most - 1, most} {
		body, want := text(n, 5), laid(7, text(n, 5))
		s, _ := sect.Put(7, body)
		spoil(body)
		other, _ := sect.Put(7, text(n, 5))
		_, got, _ := sect.Get(other)
		_, twin, _ := sect.Get(other)
		if !bytes.Equal(s, want) {
			t.Errorf("%d bytes: the sector turns with the body that was put", n)
		}
		spoil(s)
		if !bytes.Equal(other, want) {
			t.Errorf("%d bytes: two sectors share their bytes", n)
		}
		spoil(got)
		if !bytes.Equal(other, want) {
			t.Errorf("%d bytes: the sector turns with the body that was got", n)
		}
		spoil(other)
		if !bytes.Equal(twin, text(n, 5)) {
			t.Errorf("%d bytes: what was got turns with the sector, or with what was got ahead of it", n)
		}
		puts(t, 7, text(n, 5))
	}
}

func TestZerosHaveNothingInCommon(t *testing.T) {
	a, b := sect.Zero(), sect.Zero()
	spoil(a)
	if !nought(b) || !nought(sect.Zero()) || len(sect.Zero()) != size {
		t.Errorf("two answers of Zero share their bytes")
	}
	isEmpty(t, a, false)
	isEmpty(t, b, true)
	puts(t, 1, nil)
	getsNone(t, b, api.ErrNone)
}

// The same is answered again, whatever was asked between.
func TestAgain(t *testing.T) {
	for range 3 {
		puts(t, 3, []byte("again"))
		refuses(t, 0, []byte("again"), api.ErrArg)
		refuses(t, 3, make([]byte, size), api.ErrLong)
		getsNone(t, make([]byte, size), api.ErrNone)
		getsNone(t, []byte("again"), api.ErrArg)
		getsNone(t, bytes.Repeat([]byte{1}, size), api.ErrBad)
	}
}
