package sha_test

import (
	"bytes"
	"crypto/sha256"
	"encoding/hex"
	"hanaper/sha"
	"strconv"
	"strings"
	"testing"
)

// edges are how many bytes a text has where what ends it needs one block more or less, or none is begun.
func edges() []int {
	return []int{0, 1, 3, 54, 55, 56, 57, 62, 63, 64, 65, 111, 118, 119, 120, 121, 127, 128, 129, 183, 184, 191, 192, 193, 1000}
}

// text is n bytes that hang on seed.
func text(n, seed int) []byte {
	b := make([]byte, n)
	for i := range b {
		b[i] = byte(i*i*7 + i*31 + seed*101 + i>>8)
	}
	return b
}

// same holds a sum against the one that the document asks.
func same(t *testing.T, what string, got, want [32]byte) {
	t.Helper()
	if got != want {
		t.Errorf("%s: %x, not %x", what, got, want)
	}
}

// isHex holds a sum against its digits; white space among these says nothing.
func isHex(t *testing.T, what string, got [32]byte, want string) {
	t.Helper()
	want = strings.ReplaceAll(want, " ", "")
	if s := hex.EncodeToString(got[:]); s != want {
		t.Errorf("%s: %s, not %s", what, s, want)
	}
}

// written is the sum of parts that are written one behind the other.
func written(parts ...[]byte) [32]byte {
	h := sha.New()
	for _, p := range parts {
		h.Write(p)
	}
	return h.Sum()
}

// P2.1: the sum.

func TestSumOfExamples(t *testing.T) {
	for _, c := range []struct{ text, want string }{
		{"", "e3b0c442 98fc1c14 9afbf4c8 996fb924 27ae41e4 649b934c a495991b 7852b855"},
		{"abc", "ba7816bf 8f01cfea 414140de 5dae2223 b00361a3 96177a9c b410ff61 f20015ad"},
		{"abcdbcdecdefdefgefghfghighijhijkijkljklmklmnlmnomnopnopq",
			"248d6a61 d20638b8 e5c02693 0c3e6039 a33ce459 64ff2167 f6ecedd4 19db06c1"},
		{"abcdefghbcdefghicdefghijdefghijkefghijklfghijklmghijklmnhijklmnoijklmnopjklmnopqklmnopqrlmnopqrsmnopqrstnopqrstu",
			"cf5b16a7 78af8380 036ce59e 7b049237 0b249b11 e8f07a51 afac4503 7afee9d1"},
		{strings.Repeat("a", 1000000),
			"cdc76e5c 9914fb92 81a1c7e2 84d73e67 f1809a48 a497200e 046d39cc c7112cd0"},
	} {
		what := "a text of " + strconv.Itoa(len(c.text))
		isHex(t, what+", at once", sha.Of([]byte(c.text)), c.want)
		isHex(t, what+", written", written([]byte(c.text)), c.want)
	}
}

func TestSumOfEachLength(t *testing.T) {
	for n := 0; n <= 330; n++ {
		for seed := range 3 {
			b := text(n, seed)
			same(t, "a text of "+strconv.Itoa(n), sha.Of(b), sha256.Sum256(b))
		}
		for _, v := range []byte{0, 128, 255} {
			b := bytes.Repeat([]byte{v}, n)
			same(t, strconv.Itoa(n)+" of "+strconv.Itoa(int(v)), sha.Of(b), sha256.Sum256(b))
		}
	}
	for _, n := range []int{4095, 4096, 4097, 8183, 8184, 65536, 1 << 20} { // the number of bits needs two bytes and more
		b := text(n, n)
		same(t, "a text of "+strconv.Itoa(n), sha.Of(b), sha256.Sum256(b))
	}
}

func TestSumHangsOnEachBit(t *testing.T) {
	for _, n := range []int{1, 55, 56, 63, 64, 65, 119, 120} {
		b := text(n, 5)
		seen := map[[32]byte]bool{sha.Of(b): true}
		for i := range 8 * n {
			b[i/8] ^= 1 << (i % 8)
			got := sha.Of(b)
			same(t, "bit "+strconv.Itoa(i)+" of "+strconv.Itoa(n), got, sha256.Sum256(b))
			if seen[got] {
				t.Errorf("bit %d of %d: a sum that was there", i, n)
			}
			seen[got] = true
			b[i/8] ^= 1 << (i % 8)
		}
	}
}

// The number of bits needs more than 32 of them from 2^29 bytes on.
func TestSumOfALongText(t *testing.T) {
	part := text(1<<20, 9)
	h, want := sha.New(), sha256.New()
	for range 1<<29/len(part) + 1 {
		h.Write(part)
		want.Write(part)
	}
	same(t, "2^29 bytes and 2^20", h.Sum(), [32]byte(want.Sum(nil)))
}

// P2.2: Of.

func TestOfParts(t *testing.T) {
	none := sha256.Sum256(nil)
	same(t, "no part", sha.Of(), none)
	same(t, "a nil part", sha.Of(nil), none)
	same(t, "an empty part", sha.Of([]byte{}), none)
	same(t, "empty parts", sha.Of(nil, []byte{}, nil, []byte{}), none)
	same(t, "a list of none", sha.Of([][]byte{}...), none)
	same(t, "a nil list", sha.Of([][]byte(nil)...), none)

	a, b := []byte("ab"), []byte("c")
	abc := sha256.Sum256([]byte("abc"))
	same(t, "two", sha.Of(a, b), abc)
	same(t, "two, empty ones about them", sha.Of(nil, a, []byte{}, nil, b, nil), abc)
	same(t, "a list", sha.Of([][]byte{a, b}...), abc)
	same(t, "two, turned", sha.Of(b, a), sha256.Sum256([]byte("cab")))
	same(t, "one twice", sha.Of(a, a), sha256.Sum256([]byte("abab")))
	if sha.Of(a, b) == sha.Of(b, a) {
		t.Error("the order of the parts does not count")
	}

	many := make([][]byte, 500)
	for i := range many {
		many[i] = text(i%97, i)
	}
	same(t, "many", sha.Of(many...), sha256.Sum256(bytes.Join(many, nil)))
}

// P2.2: New, Write, Sum.

func TestSumOfNothingWritten(t *testing.T) {
	none := sha256.Sum256(nil)
	h := sha.New()
	same(t, "nothing written", h.Sum(), none)
	h.Write(nil)
	same(t, "nil written", h.Sum(), none)
	h.Write([]byte{})
	same(t, "no byte written", h.Sum(), none)
	h.Write([]byte("abc"))
	same(t, "abc written then", h.Sum(), sha256.Sum256([]byte("abc")))
}

func TestSumIsAskedForTwice(t *testing.T) {
	for _, n := range edges() {
		b := text(n, 2)
		h := sha.New()
		h.Write(b)
		for i := range 3 {
			same(t, strconv.Itoa(n)+", Sum "+strconv.Itoa(i), h.Sum(), sha256.Sum256(b))
		}
	}
}

func TestMoreMayBeWrittenBehindASum(t *testing.T) {
	for _, first := range edges() {
		for _, second := range edges() {
			b := text(first+second, first)
			h := sha.New()
			h.Write(b[:first])
			what := strconv.Itoa(first) + " and " + strconv.Itoa(second)
			same(t, what+", between", h.Sum(), sha256.Sum256(b[:first]))
			h.Write(b[first:])
			same(t, what+", behind", h.Sum(), sha256.Sum256(b))
		}
	}
}

func TestSumBehindEachByte(t *testing.T) {
	b := text(400, 4)
	h := sha.New()
	for i := range b {
		h.Write(b[i : i+1])
		same(t, strconv.Itoa(i+1)+" bytes, one by one", h.Sum(), sha256.Sum256(b[:i+1]))
		h.Write(nil)
		same(t, strconv.Itoa(i+1)+" bytes, and none", h.Sum(), sha256.Sum256(b[:i+1]))
	}
}

func TestHashesDoNotTouchOneAnother(t *testing.T) {
	x, y := sha.New(), sha.New()
	a, b := text(100, 1), text(100, 2)
	for i := range a {
		x.Write(a[i : i+1])
		y.Write(b[i : i+1])
	}
	same(t, "x", x.Sum(), sha256.Sum256(a))
	same(t, "y", y.Sum(), sha256.Sum256(b))
	same(t, "a new one", sha.New().Sum(), sha256.Sum256(nil))
}

// P2.2: a Hash that New did not make.

func TestHashThatNewDidNotMake(t *testing.T) {
	var none *sha.Hash
	var blank sha.Hash
	for what, h := range map[string]*sha.Hash{"nil": none, "a blank one": &blank, "new": new(sha.Hash)} {
		same(t, what, h.Sum(), [32]byte{})
		for _, n := range edges() {
			b := text(n, 3)
			h.Write(b)
			same(t, what+", "+strconv.Itoa(n)+" written", h.Sum(), [32]byte{})
			same(t, what+", Sum twice", h.Sum(), [32]byte{})
			if !bytes.Equal(b, text(n, 3)) {
				t.Errorf("%s: what was written was changed", what)
			}
		}
		h.Write(nil)
		same(t, what+", nil written", h.Sum(), [32]byte{})
	}
	if blank != (sha.Hash{}) {
		t.Error("a blank one was changed")
	}
}

// P2.2: Hex.

func TestHexOfExamples(t *testing.T) {
	if s := sha.Hex([32]byte{}); s != strings.Repeat("0", 64) {
		t.Errorf("of zeros: %s", s)
	}
	if s := sha.Hex([32]byte(bytes.Repeat([]byte{255}, 32))); s != strings.Repeat("f", 64) {
		t.Errorf("of 255s: %s", s)
	}
	d := [32]byte{0: 0x01, 1: 0x10, 2: 0x9a, 3: 0xa9, 30: 0x0f, 31: 0xf0}
	if s := sha.Hex(d); s != "01109aa9"+strings.Repeat("0", 52)+"0ff0" {
		t.Errorf("of some: %s", s)
	}
	if s := sha.Hex(sha.Of([]byte("abc"))); s != "ba7816bf8f01cfea414140de5dae2223b00361a396177a9cb410ff61f20015ad" {
		t.Errorf("of abc: %s", s)
	}
}

func TestHexOfEachByteAtEachPlace(t *testing.T) {
	for i := range 32 {
		for v := range 256 {
			d := [32]byte(text(32, i))
			d[i] = byte(v)
			if s := sha.Hex(d); s != hex.EncodeToString(d[:]) {
				t.Errorf("%d at %d: %s", v, i, s)
			}
		}
	}
}

// P2.3.

func TestATextInTwoPartsAndInThree(t *testing.T) {
	b := text(200, 6)
	want := sha256.Sum256(b)
	for i := range len(b) + 1 {
		same(t, "parted at "+strconv.Itoa(i), sha.Of(b[:i], b[i:]), want)
		for _, j := range []int{0, 1, 63, 64, 65, 127, 128, 129, 192, 200} {
			if j < i {
				continue
			}
			what := "parted at " + strconv.Itoa(i) + " and " + strconv.Itoa(j)
			same(t, what, sha.Of(b[:i], b[i:j], b[j:]), want)
			same(t, what+", written", written(b[:i], b[i:j], b[j:]), want)
		}
	}
}

func TestATextInPartsOfEachLength(t *testing.T) {
	for _, n := range append(edges(), 5000) {
		b := text(n, 8)
		want := sha256.Sum256(b)
		for size := 1; size <= 200; size++ {
			var parts [][]byte
			for rest := b; len(rest) > 0; rest = rest[min(size, len(rest)):] {
				parts = append(parts, rest[:min(size, len(rest))])
			}
			what := strconv.Itoa(n) + " in parts of " + strconv.Itoa(size)
			same(t, what, sha.Of(parts...), want)
			same(t, what+", written", written(parts...), want)
		}
	}
}

// Rules that hold everywhere, 3: what is handed in is not changed, and not kept.

func TestPartsAreNotChangedAndNotKept(t *testing.T) {
	whole := text(300, 7)
	parts := [][]byte{whole[:50], whole[50:70], whole[70:250]}
	want := sha256.Sum256(whole[:250])
	same(t, "at once", sha.Of(parts...), want)
	h := sha.New()
	buffer := make([]byte, 0, 300)
	for _, p := range parts {
		buffer = append(buffer[:0], p...) // the same memory each time
		h.Write(buffer)
		clear(buffer)
	}
	same(t, "from one buffer", h.Sum(), want)
	if !bytes.Equal(whole, text(300, 7)) || len(parts[0]) != 50 || len(parts[2]) != 180 {
		t.Error("what was handed in was changed")
	}
	d := h.Sum()
	clear(d[:])
	same(t, "with an answer changed", h.Sum(), want)
}

func FuzzParts(f *testing.F) {
	f.Add([]byte("abc"), 1, 2)
	f.Add(text(120, 0), 55, 64)
	f.Fuzz(func(t *testing.T, b []byte, i, j int) {
		i = max(0, min(i, len(b)))
		j = max(i, min(j, len(b)))
		want := sha256.Sum256(b)
		same(t, "at once", sha.Of(b), want)
		same(t, "in three", sha.Of(b[:i], b[i:j], b[j:]), want)
		same(t, "written", written(b[:i], b[i:j], b[j:]), want)
	})
}
