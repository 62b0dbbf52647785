package commit_test

import (
	"bytes"
	"crypto/sha256"
	"encoding/hex"
	"fmt"
	"hanaper/commit"
	"math"
	"math/big"
	"math/rand"
	"slices"
	"testing"
)

// number is n as bytes, by P1.1 alone: how many it needs, and these, the highest first.
func number(n *big.Int) []byte {
	b := n.Bytes()
	return append([]byte{byte(len(b))}, b...)
}

// big64 is n as a number that the tests reckon with by themselves.
func big64(n uint64) *big.Int { return new(big.Int).SetUint64(n) }

// laid is what a commitment sums, by P7.1.
func laid(salt uint64, payload []byte) []byte {
	return slices.Concat([]byte{1}, number(big64(salt)), number(big64(uint64(len(payload)))), payload)
}

// laidLink is what a link sums, by P7.2.
func laidLink(seq int, prev, com [32]byte) []byte {
	n := big.NewInt(int64(seq))
	if seq < 0 {
		n.Add(n, new(big.Int).Lsh(big.NewInt(1), 64))
	}
	return slices.Concat([]byte{2}, number(n), prev[:], com[:])
}

// short is bytes as the tests' messages show them: of many only the beginning.
func short(b []byte) string {
	if len(b) > 40 {
		return fmt.Sprintf("%x.. of %d", b[:40], len(b))
	}
	return fmt.Sprintf("%x", b)
}

// same holds a sum against the one that the document asks.
func same(t *testing.T, what string, got, want [32]byte) {
	t.Helper()
	if got != want {
		t.Errorf("%s: %x, not %x", what, got, want)
	}
}

// isHex holds a sum against its digits.
func isHex(t *testing.T, what string, got [32]byte, want string) {
	t.Helper()
	if s := hex.EncodeToString(got[:]); s != want {
		t.Errorf("%s: %s, not %s", what, s, want)
	}
}

// untouched hands f the payload, with bytes about it that are another's, and asks that all of them are as they were.
func untouched(t *testing.T, what string, payload []byte, f func(b []byte)) {
	t.Helper()
	if len(payload) == 0 {
		f(payload) // nil stays nil
	}
	whole := slices.Concat([]byte("<<"), payload, []byte(">>>>"))
	was := bytes.Clone(whole)
	f(whole[2 : 2+len(payload)])
	if !bytes.Equal(whole, was) {
		t.Errorf("%s of %s: what was handed in is another one: %s", what, short(payload), short(whole))
	}
}

// commits holds Of and Check of a salt and a payload against the commitment that the document asks, and tells this.
func commits(t *testing.T, salt uint64, payload []byte) [32]byte {
	t.Helper()
	return commitsTo(t, salt, payload, laid(salt, payload))
}

// commitsTo is commits, with the bytes that are summed.
func commitsTo(t *testing.T, salt uint64, payload, summed []byte) [32]byte {
	t.Helper()
	want := sha256.Sum256(summed)
	untouched(t, "Of", payload, func(b []byte) {
		same(t, fmt.Sprintf("Of %d, %s", salt, short(b)), commit.Of(salt, b), want)
	})
	checks(t, "its own commitment", want, salt, payload, true)
	return want
}

// checks holds Check against what the document asks.
func checks(t *testing.T, what string, com [32]byte, salt uint64, payload []byte, want bool) {
	t.Helper()
	untouched(t, "Check", payload, func(b []byte) {
		if commit.Check(com, salt, b) != want {
			t.Errorf("Check of %s, with %d, %s: not %t", what, salt, short(b), want)
		}
	})
}

// links holds Link against the link that the document asks, and tells this.
func links(t *testing.T, seq int, prev, com [32]byte) [32]byte {
	t.Helper()
	return linksTo(t, seq, prev, com, laidLink(seq, prev, com))
}

// linksTo is links, with the bytes that are summed.
func linksTo(t *testing.T, seq int, prev, com [32]byte, summed []byte) [32]byte {
	t.Helper()
	want := sha256.Sum256(summed)
	wasPrev, wasCom := prev, com
	same(t, fmt.Sprintf("Link %d, %x, %x", seq, prev, com), commit.Link(seq, prev, com), want)
	if prev != wasPrev || com != wasCom {
		t.Errorf("Link %d: what was handed in is another one", seq)
	}
	return want
}

// text is n bytes that hang on seed.
func text(n, seed int) []byte {
	b := make([]byte, n)
	for i := range b {
		b[i] = byte(i*i*7 + i*31 + seed*101 + i>>8)
	}
	return b
}

// block is 32 bytes that hang on seed.
func block(seed int) [32]byte { return [32]byte(text(32, seed)) }

// full is 32 bytes of value v.
func full(v byte) [32]byte { return [32]byte(bytes.Repeat([]byte{v}, 32)) }

// salts are those about which a salt has another byte more, and others.
func salts() []uint64 {
	l := []uint64{0, 1, 2, 127, 128, 254, 255, 256, 257, 258, 1 << 62, 1<<63 - 1, 1 << 63, math.MaxUint64 - 1, math.MaxUint64}
	for k := 16; k < 64; k += 8 {
		l = append(l, 1<<k-1, 1<<k, 1<<k+1)
	}
	return l
}

// seqs are numbers of entries, also those that none has.
func seqs() []int {
	l := []int{0, 1, 2, -1, -2, -255, -256, -257, 119, 127, 128, 255, 256, 257, math.MaxInt, math.MaxInt - 1, math.MinInt, math.MinInt + 1}
	for k := 16; k < 63; k += 8 {
		l = append(l, 1<<k-1, 1<<k, -1<<k, -1<<k-1)
	}
	return l
}

// blocks are such as are like one another, and others.
func blocks() [][32]byte {
	l := [][32]byte{{}, full(1), full(255), block(1), block(2), commit.Of(0, nil), commit.Of(5, []byte("a")), commit.Link(0, [32]byte{}, [32]byte{})}
	first, last := [32]byte{}, [32]byte{}
	first[0], last[31] = 1, 1
	return append(l, first, last)
}

// thrown are what a test throws, the same in each run.
type thrown struct{ *rand.Rand }

func throw() thrown { return thrown{rand.New(rand.NewSource(7))} }

// number is one of any count of bits.
func (d thrown) number() uint64 { return d.Uint64() >> d.Intn(65) }

// bytes are up to 300 of them, more often few.
func (d thrown) bytes() []byte {
	b := make([]byte, d.Intn(1+d.Intn(300)))
	d.Read(b)
	return b
}

func (d thrown) block() [32]byte {
	var b [32]byte
	d.Read(b[:])
	return b
}

// P7.1: Of.

func TestOfExamples(t *testing.T) {
	for _, c := range []struct {
		salt    uint64
		payload []byte
		want    string
	}{
		{0, nil, "fb50dc0717ff266cf9baf82b1ce7a1c2ef6d9247859680b11a19fb7077f5f222"},
		{0, []byte{}, "fb50dc0717ff266cf9baf82b1ce7a1c2ef6d9247859680b11a19fb7077f5f222"},
		{5, []byte("a"), "c491551352a858db4a44961cde7842a15d1a83d175a5108de8a6e20053c2be85"},
		{258, []byte("abc"), "7a6c696cab962dc16eb74a4ba80c68330d5df56eb35847dc458724702c001970"},
	} {
		isHex(t, fmt.Sprintf("Of %d, %q", c.salt, c.payload), commit.Of(c.salt, c.payload), c.want)
	}
}

func TestOfByHand(t *testing.T) {
	for _, c := range []struct {
		salt            uint64
		payload, summed []byte
	}{
		{0, nil, []byte{1, 0, 0}},
		{0, []byte{}, []byte{1, 0, 0}},
		{0, []byte{0}, []byte{1, 0, 1, 1, 0}},
		{0, []byte{1, 0, 0}, []byte{1, 0, 1, 3, 1, 0, 0}},
		{1, nil, []byte{1, 1, 1, 0}},
		{1, []byte{1}, []byte{1, 1, 1, 1, 1, 1}},
		{2, []byte{0, 0}, []byte{1, 1, 2, 1, 2, 0, 0}},
		{5, []byte("a"), []byte{1, 1, 5, 1, 1, 97}},
		{255, []byte("ab"), []byte{1, 1, 255, 1, 2, 97, 98}},
		{256, []byte("a"), []byte{1, 2, 1, 0, 1, 1, 97}},
		{258, []byte("abc"), []byte{1, 2, 1, 2, 1, 3, 97, 98, 99}},
		{65535, []byte{255}, []byte{1, 2, 255, 255, 1, 1, 255}},
		{65536, []byte{255}, []byte{1, 3, 1, 0, 0, 1, 1, 255}},
		{1 << 32, nil, []byte{1, 5, 1, 0, 0, 0, 0, 0}},
		{1 << 62, []byte("z"), []byte{1, 8, 64, 0, 0, 0, 0, 0, 0, 0, 1, 1, 122}},
		{0x0102030405060708, []byte{9}, []byte{1, 8, 1, 2, 3, 4, 5, 6, 7, 8, 1, 1, 9}},
		{math.MaxUint64, nil, []byte{1, 8, 255, 255, 255, 255, 255, 255, 255, 255, 0}},
		{0, text(255, 1), slices.Concat([]byte{1, 0, 1, 255}, text(255, 1))},
		{0, text(256, 1), slices.Concat([]byte{1, 0, 2, 1, 0}, text(256, 1))},
		{7, text(2000, 1), slices.Concat([]byte{1, 1, 7, 2, 7, 208}, text(2000, 1))},
		{7, text(65536, 1), slices.Concat([]byte{1, 1, 7, 3, 1, 0, 0}, text(65536, 1))},
	} {
		commitsTo(t, c.salt, c.payload, c.summed)
	}
}

// Each length up to 330 has in it, for every salt, those at which a sum takes one block more.
func TestOfAllLengths(t *testing.T) {
	for _, salt := range salts() {
		for n := 0; n <= 330; n++ {
			commits(t, salt, text(n, n))
		}
		for _, n := range []int{511, 512, 1999, 2000, 2001, 65535, 65536, 65537} {
			commits(t, salt, text(n, n))
		}
		for _, v := range []byte{0, 1, 255} {
			commits(t, salt, bytes.Repeat([]byte{v}, 100))
		}
	}
}

func TestOfThrown(t *testing.T) {
	d := throw()
	for range 5000 {
		commits(t, d.number(), d.bytes())
	}
}

// P7.1: Check.

// pair is a salt and a payload.
type pair struct {
	salt    uint64
	payload []byte
}

// pairs are such as the tests of Check change.
func pairs() []pair {
	return []pair{{0, nil}, {1, []byte{0}}, {5, []byte("a")}, {255, []byte("ab")}, {256, text(51, 1)}, {1 << 62, text(100, 2)}, {math.MaxUint64, text(255, 3)}}
}

func TestCheckOfAnotherCommitment(t *testing.T) {
	for _, p := range pairs() {
		salt, payload := p.salt, p.payload
		right := commits(t, salt, payload)
		for at := range right {
			for v := range 256 {
				com := right
				com[at] = byte(v)
				checks(t, fmt.Sprintf("the byte %d at %d", v, at), com, salt, payload, com == right)
			}
		}
		for i, com := range blocks() {
			checks(t, fmt.Sprint("block ", i), com, salt, payload, com == right)
		}
		checks(t, "the bytes from behind", [32]byte(reversed(right[:])), salt, payload, false)
	}
}

func TestCheckOfAnotherSalt(t *testing.T) {
	for _, p := range pairs() {
		salt, payload := p.salt, p.payload
		right := commits(t, salt, payload)
		for k := range 64 {
			checks(t, fmt.Sprint("salt ", salt), right, salt^1<<k, payload, false)
			checks(t, fmt.Sprint("salt ", salt), right, salt+1<<k, payload, false)
			checks(t, fmt.Sprint("salt ", salt), right, salt-1<<k, payload, false)
		}
	}
}

func TestCheckOfAnotherPayload(t *testing.T) {
	for _, p := range pairs() {
		salt, payload := p.salt, p.payload
		right := commits(t, salt, payload)
		what := "payload " + short(payload)
		for _, v := range []byte{0, 1, 97, 255} {
			for at := 0; at <= len(payload); at++ {
				checks(t, what, right, salt, slices.Insert(bytes.Clone(payload), at, v), false)
			}
		}
		for at := range payload {
			checks(t, what, right, salt, slices.Delete(bytes.Clone(payload), at, at+1), false)
			for k := range 8 {
				changed := bytes.Clone(payload)
				changed[at] ^= 1 << k
				checks(t, what, right, salt, changed, false)
			}
		}
		if len(payload) > 0 {
			checks(t, what, right, salt, nil, false)
			checks(t, what, right, salt, []byte{}, false)
		}
	}
}

// What is laid in another way is no commitment, but where the bytes happen to be the same.
func TestCheckOfOtherSums(t *testing.T) {
	for _, p := range pairs() {
		whole := laid(p.salt, p.payload)
		right := sha256.Sum256(whole)
		salt, size := number(big64(p.salt)), number(big64(uint64(len(p.payload))))
		eight := big64(p.salt).FillBytes(make([]byte, 8))
		one := []byte{1}
		for what, b := range map[string][]byte{
			"the payload alone":      p.payload,
			"no byte ahead":          whole[1:],
			"a byte 0 ahead":         slices.Concat([]byte{0}, whole[1:]),
			"a byte 2 ahead":         slices.Concat([]byte{2}, whole[1:]),
			"a byte behind":          slices.Concat(whole, []byte{0}),
			"no salt":                slices.Concat(one, size, p.payload),
			"a salt of eight bytes":  slices.Concat(one, eight, size, p.payload),
			"a salt turned about":    slices.Concat(one, salt[:1], reversed(salt[1:]), size, p.payload),
			"the salt's bytes alone": slices.Concat(one, salt[1:], size, p.payload),
			"no length":              slices.Concat(one, salt, p.payload),
			"the payload first":      slices.Concat(one, size, p.payload, salt),
			"the commitment itself":  right[:],
		} {
			checks(t, "a sum with "+what, sha256.Sum256(b), p.salt, p.payload, bytes.Equal(b, whole))
		}
	}
}

// reversed is b from behind.
func reversed(b []byte) []byte {
	c := bytes.Clone(b)
	slices.Reverse(c)
	return c
}

// P7.2: Link.

func TestLinkExamples(t *testing.T) {
	isHex(t, "Link 0, of bytes 0", commit.Link(0, [32]byte{}, [32]byte{}), "e1f9929605ca5786a2afbb1db7adbb67cd61725707a3f68191fd067ee700b2fe")
}

func TestLinkByHand(t *testing.T) {
	for _, c := range []struct {
		seq  int
		head []byte
	}{
		{0, []byte{2, 0}},
		{1, []byte{2, 1, 1}},
		{2, []byte{2, 1, 2}},
		{120, []byte{2, 1, 120}},
		{255, []byte{2, 1, 255}},
		{256, []byte{2, 2, 1, 0}},
		{65536, []byte{2, 3, 1, 0, 0}},
		{math.MaxInt, []byte{2, 8, 127, 255, 255, 255, 255, 255, 255, 255}},
		{-1, []byte{2, 8, 255, 255, 255, 255, 255, 255, 255, 255}},
		{-5, []byte{2, 8, 255, 255, 255, 255, 255, 255, 255, 251}},
		{-256, []byte{2, 8, 255, 255, 255, 255, 255, 255, 255, 0}},
		{math.MinInt, []byte{2, 8, 128, 0, 0, 0, 0, 0, 0, 0}},
	} {
		zeros, ones, sevens := make([]byte, 32), bytes.Repeat([]byte{1}, 32), bytes.Repeat([]byte{7}, 32)
		linksTo(t, c.seq, full(0), full(0), slices.Concat(c.head, zeros, zeros))
		linksTo(t, c.seq, full(1), full(7), slices.Concat(c.head, ones, sevens))
		linksTo(t, c.seq, full(7), full(1), slices.Concat(c.head, sevens, ones))
		linksTo(t, c.seq, full(7), full(7), slices.Concat(c.head, sevens, sevens))
		linksTo(t, c.seq, full(0), full(7), slices.Concat(c.head, zeros, sevens))
		linksTo(t, c.seq, full(7), full(0), slices.Concat(c.head, sevens, zeros))
		linksTo(t, c.seq, block(1), block(2), slices.Concat(c.head, text(32, 1), text(32, 2)))
	}
}

func TestLinkOfAllEdges(t *testing.T) {
	for _, seq := range seqs() {
		for _, prev := range blocks() {
			for _, com := range blocks() {
				links(t, seq, prev, com)
			}
		}
	}
}

func TestLinkThrown(t *testing.T) {
	d := throw()
	for range 5000 {
		links(t, int(d.number()), d.block(), d.block())
		b := d.block()
		links(t, -int(d.number()), b, b)
	}
}

// A chain of links, each behind the one ahead of it.
func TestLinksOfAChain(t *testing.T) {
	d := throw()
	head, want := [32]byte{}, [32]byte{}
	for i := range 200 {
		salt, payload := d.number(), d.bytes()
		head = commit.Link(i, head, commit.Of(salt, payload))
		want = sha256.Sum256(laidLink(i, want, sha256.Sum256(laid(salt, payload))))
		same(t, fmt.Sprint("the head behind ", i), head, want)
	}
}

// P7.1, P7.2: no commitment is a link.

// twins are a link, and a commitment whose summed bytes are the link's but for the first one.
func twins(seq int, rest []byte) (prev, com [32]byte, salt uint64, payload []byte) {
	all := slices.Concat([]byte{1, 62}, rest)
	return [32]byte(all[:32]), [32]byte(all[32:]), uint64(seq), rest
}

func TestLinksAreNoCommitments(t *testing.T) {
	d := throw()
	for _, seq := range append(seqs(), int(d.number()), -int(d.number())) {
		for range 10 {
			rest := make([]byte, 62)
			d.Read(rest)
			prev, com, salt, payload := twins(seq, rest)
			a, b := laid(salt, payload), laidLink(seq, prev, com)
			if a[0] != 1 || b[0] != 2 || !bytes.Equal(a[1:], b[1:]) {
				t.Fatalf("no twins: %x, %x", a, b)
			}
			link, is := links(t, seq, prev, com), commits(t, salt, payload)
			if link == is {
				t.Errorf("Link %d, %x, %x: the commitment to the same bytes", seq, prev, com)
			}
			checks(t, "the link of its bytes", link, salt, payload, false)
			for _, p := range [][]byte{nil, prev[:], com[:], slices.Concat(prev[:], com[:]), laidLink(seq, prev, com)} {
				checks(t, "a link", link, salt, p, false)
				checks(t, "a link", link, 0, p, false)
			}
		}
	}
}

// P7.3: what is unlike has unlike commitments, and links.

// apart asks that no two that are unlike have one sum. What was summed, as the document says it, tells them apart.
type apart map[[32]byte]string

func (a apart) put(t *testing.T, what string, got [32]byte, summed []byte) {
	t.Helper()
	if was, there := a[got]; there && was != string(summed) {
		t.Errorf("%s: one sum of %s and of %s", what, short([]byte(was)), short(summed))
	}
	a[got] = string(summed)
}

func (a apart) of(t *testing.T, salt uint64, payload []byte) {
	t.Helper()
	untouched(t, "Of", payload, func(b []byte) { a.put(t, "Of", commit.Of(salt, b), laid(salt, payload)) })
}

func (a apart) link(t *testing.T, seq int, prev, com [32]byte) {
	t.Helper()
	a.put(t, "Link", commit.Link(seq, prev, com), laidLink(seq, prev, com))
}

// count asks that there are as many sums as there were unlike things, which the test counts by itself.
func (a apart) count(t *testing.T, want int) {
	t.Helper()
	if len(a) != want {
		t.Errorf("%d sums of %d unlike ones", len(a), want)
	}
}

func TestUnlikeCommitments(t *testing.T) {
	a, d := apart{}, throw()
	for _, salt := range salts() {
		for n := range 70 {
			a.of(t, salt, make([]byte, n)) // alike but for how many they are
			if n > 0 {
				a.of(t, salt, text(n, n))
			}
		}
	}
	for salt := range uint64(3000) {
		a.of(t, salt, nil)
		a.of(t, salt, []byte{byte(salt)})
		a.of(t, 0, []byte{byte(salt >> 8), byte(salt)})
	}
	for range 5000 {
		a.of(t, d.number(), d.bytes())
	}
}

// The payloads differ at one byte, the salts at one bit.
func TestCommitmentsThatDifferAtOnePlace(t *testing.T) {
	a, payload := apart{}, text(256, 4)
	a.of(t, 6, payload)
	for i := range payload {
		for v := 1; v < 256; v++ {
			payload[i] ^= byte(v)
			a.of(t, 6, payload)
			payload[i] ^= byte(v)
		}
	}
	for k := range 64 {
		a.of(t, 6^1<<k, payload)
	}
	a.count(t, 1+256*255+64)
}

// One row of bytes, the salt's and the payload's, that is cut at each place: the bytes are the same, only where the payload begins is not.
func TestCommitmentsThatAreDividedElsewhere(t *testing.T) {
	a := apart{}
	for _, row := range [][]byte{{1, 2, 3, 4, 5, 6, 7, 8, 9, 10}, bytes.Repeat([]byte{1}, 12), bytes.Repeat([]byte{8}, 12), {2, 1, 2, 1, 2, 1, 2, 1, 2, 1}, {1, 0, 0, 0, 0, 0, 0, 0, 0, 0, 0}} {
		for cut := range 9 {
			a.of(t, new(big.Int).SetBytes(row[:cut]).Uint64(), row[cut:])
		}
	}
	a.count(t, 5*9)

	// The payload begins as the salt's bytes, or the length's, end.
	all := apart{}
	for _, salt := range []uint64{0, 1, 0x0101, 0x010101} {
		for n := range 6 {
			all.of(t, salt, bytes.Repeat([]byte{1}, n))
			all.of(t, salt, append(make([]byte, n), 2))
		}
	}
	all.count(t, 4*12)
}

func TestUnlikeLinks(t *testing.T) {
	a, d := apart{}, throw()
	n := 0
	for _, seq := range seqs() {
		for _, prev := range blocks() {
			for _, com := range blocks() {
				a.link(t, seq, prev, com)
				n++
			}
		}
	}
	a.count(t, n)
	for seq := 300; seq < 5000; seq++ {
		a.link(t, seq, full(1), full(1))
		a.link(t, -seq, full(1), full(1))
		a.link(t, seq, d.block(), d.block())
		n += 3
	}
	a.count(t, n)
}

func TestLinksThatDifferAtOnePlace(t *testing.T) {
	a, prev, com := apart{}, block(5), block(6)
	a.link(t, 6, prev, com)
	a.link(t, 6, com, prev)
	for i := range 32 {
		for v := 1; v < 256; v++ {
			b := prev
			b[i] ^= byte(v)
			a.link(t, 6, b, com)
			b = com
			b[i] ^= byte(v)
			a.link(t, 6, prev, b)
		}
	}
	for k := range 64 {
		a.link(t, 6^1<<k, prev, com)
	}
	a.count(t, 2+2*32*255+64)
}

// One row of bytes, that of the number, of prev and of com, that is cut one place further on.
func TestLinksThatAreDividedElsewhere(t *testing.T) {
	a := apart{}
	row := text(80, 8)
	row[0] = 1
	for size := range 9 {
		seq := int(new(big.Int).SetBytes(row[:size]).Int64())
		a.link(t, seq, [32]byte(row[size:]), [32]byte(row[size+32:]))
		a.link(t, seq, [32]byte(row[size+32:]), [32]byte(row[size:]))
	}
	a.count(t, 2*9)
}

func TestCommitmentsAndLinksTogether(t *testing.T) {
	a, d := apart{}, throw()
	for i := range 2000 {
		rest := make([]byte, 62)
		d.Read(rest)
		prev, com, salt, payload := twins(i, rest)
		a.of(t, salt, payload)
		a.link(t, i, prev, com)
	}
	a.count(t, 4000)
}

// Rules that hold everywhere, 3 and 4.

// Another payload in the same memory, and an answer that is changed, say nothing of what was answered, and of what is answered next.
func TestNothingIsKept(t *testing.T) {
	payload := text(100, 1)
	first := commit.Of(5, payload)
	was := first
	copy(payload, text(100, 2))
	same(t, "what was answered", first, was)
	same(t, "another payload", commit.Of(5, payload), sha256.Sum256(laid(5, text(100, 2))))
	checks(t, "the first payload's", first, 5, payload, false)
	clear(first[:])
	for range 3 {
		same(t, "the first payload", commit.Of(5, text(100, 1)), was)
		links(t, 5, was, first)
		checks(t, "the first payload's", was, 5, text(100, 1), true)
		checks(t, "bytes 0", first, 5, text(100, 1), false)
	}
}
