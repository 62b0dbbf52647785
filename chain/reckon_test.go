package chain_test

import (
	"bytes"
	"crypto/sha256"
	"encoding/hex"
	"fmt"
	"hanaper/api"
	"hanaper/chain"
	"math"
	"slices"
	"strings"
	"testing"
)

// The limits and the errors, as the document numbers them.
const (
	mostAudit   = 120
	mostPayload = 100
	headSize    = 32

	fine     = 0
	errText  = 2
	errNone  = 5
	errState = 13
)

// Sums that were reckoned by another program: of the payload a with the salt 7, behind it bc with 300, behind it no byte with 0.
const (
	comA  = "ce707a98a81ef0dbc556d572ca823d8166f0653246dc7d6cdd2225ca8feb5e83"
	headA = "551403b6036ba84166ea5b063fae51f49e56e40d243fa65f23d7c2c25ad1fe70"
	comB  = "20a7398f7ae3d0aac26d29b640fed4b480fe58794198fa601109ac4c77ebad40"
	headB = "7d1e09fe668a805a5361320b1c8dfc3add641bd443eb67277dd73a6516e511db"
	comC  = "fb50dc0717ff266cf9baf82b1ce7a1c2ef6d9247859680b11a19fb7077f5f222"
	headC = "4239f9289330b7b408da6bf51c374a85d5a57951ea127d19c3f149faab1746d1"
)

// unhex is 32 bytes written as digits.
func unhex(s string) [32]byte {
	b, err := hex.DecodeString(s)
	if err != nil || len(b) != 32 {
		panic("not 32 bytes: " + s)
	}
	return [32]byte(b)
}

// byHand is the chain whose sums stand above.
func byHand() []api.Entry {
	return []api.Entry{
		{Seq: 0, Com: unhex(comA), Salt: 7, Payload: []byte("a")},
		{Seq: 1, Prev: unhex(headA), Com: unhex(comB), Salt: 300, Payload: []byte("bc")},
		{Seq: 2, Prev: unhex(headB), Com: unhex(comC)},
	}
}

// filled is 32 bytes v.
func filled(v byte) [32]byte {
	return [32]byte(bytes.Repeat([]byte{v}, 32))
}

// salts are such of each number of bytes, and the edges.
func salts() []uint64 {
	l := []uint64{0, 1, 7, 100, 255, 256, 300, 1 << 62, 1<<62 + 1, math.MaxInt64, 1 << 63, 1<<63 + 1, math.MaxUint64 - 1, math.MaxUint64}
	for k := range 64 {
		l = append(l, 1<<k, 1<<k-1)
	}
	return l
}

// payloads are such of no byte, of one, of as many as are read and more, also such as look like other parts of a chain's bytes.
func payloads() [][]byte {
	l := [][]byte{nil, {}, {0}, {1}, {97}, {255}, {0, 0}, {1, 0, 0}, {2, 0}, []byte("abc"), []byte("é日\xff"), bytesOf(nil), bytesOf(byHand()[:1]), bytesOf(byHand()[:2])}
	for _, n := range []int{31, 32, 33, 34, 35, 55, 56, 63, 64, 65, 99, 100, 101, 127, 128, 255, 256, 257, 1000, 1 << 16} {
		l = append(l, bytes.Repeat([]byte{byte(n)}, n), make([]byte, n))
	}
	return l
}

// places are ints that are no place of a list of n.
func places(n int) []int {
	return []int{-1, -2, -n, -n - 1, n, n + 1, n + 2, 2*n + 1, -1 << 32, 1 << 32, 1<<32 + n, -256, n + 256, math.MinInt, math.MinInt + 1, math.MinInt + n, math.MinInt32, math.MaxInt32, math.MaxInt - 1, math.MaxInt}
}

// chainOf is a right chain with these payloads, whose salts are 1, 2 and so on.
func chainOf(payloads ...string) []api.Entry {
	var l []api.Entry
	for i, p := range payloads {
		l = added(l, uint64(i+1), []byte(p))
	}
	return l
}

// long is a right chain of n entries, with salts and payloads of many lengths.
func long(n int) []api.Entry {
	var l []api.Entry
	for i := range n {
		l = append(l, behind(l, uint64(i)*uint64(i)<<(i%50), bytes.Repeat([]byte{byte(i)}, i*7%101)))
	}
	return l
}

// without is l with the entries at these places redacted.
func without(l []api.Entry, at ...int) []api.Entry {
	l = own(l)
	for _, i := range at {
		l[i].Salt, l[i].Payload, l[i].Redacted = 0, nil, true
	}
	return l
}

// turned is l with the entry at a place turned by f.
func turned(l []api.Entry, i int, f func(x *api.Entry)) []api.Entry {
	l = own(l)
	f(&l[i])
	return l
}

// linked is l with each Seq and Prev as it should be.
func linked(l []api.Entry) []api.Entry {
	l = own(l)
	for i := range l {
		l[i].Seq, l[i].Prev = i, headOf(l[:i])
	}
	return l
}

// strange is a list of n entries of which hardly anything is right.
func strange(n int) []api.Entry {
	var l []api.Entry
	for i := range n {
		l = append(l, api.Entry{Seq: (i - 2) * 1000, Prev: filled(byte(i + 1)), Com: filled(byte(i + 100)), Salt: uint64(i) << 40, Payload: bytes.Repeat([]byte{byte(i)}, i%5*50), Redacted: i%3 == 1})
	}
	return l
}

// some are lists, right ones and such as do not verify.
func some() [][]api.Entry {
	l := [][]api.Entry{
		nil, {}, {{}}, {{Redacted: true}}, {{}, {}}, {{Seq: math.MinInt}}, {{Seq: -1, Com: filled(1)}}, {{Seq: math.MaxInt, Prev: filled(255), Com: filled(255), Salt: math.MaxUint64, Payload: []byte{255}, Redacted: true}},
		byHand()[:1], byHand()[:2], byHand(), without(byHand(), 0), without(byHand(), 1), without(byHand(), 2), without(byHand(), 0, 2), without(byHand(), 0, 1, 2),
		chainOf("", "", ""), chainOf(strings.Repeat("x", 100), strings.Repeat("x", 101), strings.Repeat("x", 300)), strange(1), strange(2), strange(9),
		long(20), without(long(20), 0, 3, 4, 19), byHand()[1:], {byHand()[1], byHand()[0]}, {byHand()[0], byHand()[0]},
	}
	for i := range 3 {
		l = append(l, turned(byHand(), i, func(x *api.Entry) { x.Seq = -1 }), turned(byHand(), i, func(x *api.Entry) { x.Prev[i]++ }), turned(byHand(), i, func(x *api.Entry) { x.Com[31]++ }), turned(byHand(), i, func(x *api.Entry) { x.Redacted = true }))
	}
	return l
}

// short is a text as the tests' messages show it: of a long one only the ends.
func short(s string) string {
	if len(s) > 400 {
		return s[:250] + " .. " + s[len(s)-50:] + fmt.Sprint(", ", len(s), " letters")
	}
	return s
}

func shown(l []api.Entry) string {
	s := ""
	for _, x := range l {
		s += fmt.Sprintf("{%d %x.. %x.. %d %s %v}", x.Seq, x.Prev[:3], x.Com[:3], x.Salt, short(fmt.Sprintf("%x", x.Payload)), x.Redacted)
	}
	return fmt.Sprintf("%d: %s", len(l), short(s))
}

// own is a copy of l that shares nothing with it.
func own(l []api.Entry) []api.Entry {
	m := slices.Clone(l)
	for i := range m {
		m[i].Payload = slices.Clone(m[i].Payload)
	}
	return m
}

// roomy is b in bytes of its own, with room behind, in which something stands.
func roomy(b []byte) []byte {
	m := slices.Concat(b, []byte{1, 0, 250})
	return m[:len(b)]
}

// roomyList is l in a list of its own, with room behind it and behind each payload, in which something stands.
func roomyList(l []api.Entry) []api.Entry {
	m := append(own(l), api.Entry{Seq: 77, Payload: []byte("room")}, api.Entry{Salt: 78, Redacted: true})
	for i := range m {
		m[i].Payload = roomy(m[i].Payload)
	}
	return m[:len(l)]
}

// raw is all that a list holds, as bytes that no other list has.
func raw(l []api.Entry) string {
	var b []byte
	for _, x := range l {
		b = append(b, told(byte(x.Seq), x.Com, numOf(x.Salt), x.Payload)...)
		b = append(b, x.Prev[:]...)
		b = fmt.Append(b, x.Seq, x.Redacted)
	}
	return string(b)
}

func isSame(a, b []api.Entry) bool { return len(a) == len(b) && raw(a) == raw(b) }

// all is what a list holds with the room behind it, and with the room behind each payload.
func all(l []api.Entry) string {
	m := slices.Clone(l[:cap(l)])
	for i, x := range m {
		m[i].Payload = x.Payload[:cap(x.Payload)]
	}
	return raw(m)
}

// spoil writes over all of l, also the room behind it.
func spoil(l []api.Entry) {
	l = l[:cap(l)]
	for i := range l {
		spoilBytes(l[i].Payload)
		l[i] = api.Entry{Seq: -9, Prev: filled(9), Com: filled(9), Salt: 9, Payload: []byte("spoiled"), Redacted: !l[i].Redacted}
	}
}

func spoilBytes(b []byte) {
	b = b[:cap(b)]
	for i := range b {
		b[i] ^= 0x5a
	}
}

// The tests' own reckoning.

// numOf is a number as P1.1 says its bytes.
func numOf(n uint64) []byte {
	var b []byte
	for ; n > 0; n /= 256 {
		b = append(b, byte(n%256))
	}
	slices.Reverse(b)
	return append([]byte{byte(len(b))}, b...)
}

func comOf(salt uint64, payload []byte) [32]byte {
	return sha256.Sum256(slices.Concat([]byte{1}, numOf(salt), numOf(uint64(len(payload))), payload))
}

func linkOf(seq int, prev, com [32]byte) [32]byte {
	return sha256.Sum256(slices.Concat([]byte{2}, numOf(uint64(seq)), prev[:], com[:]))
}

// headOf is Head as P24.1 says it.
func headOf(l []api.Entry) [32]byte {
	for _, x := range l[max(len(l)-1, 0):] {
		return linkOf(x.Seq, x.Prev, x.Com)
	}
	return [32]byte{}
}

// behind is the entry that P24.1 asks behind l.
func behind(l []api.Entry, salt uint64, payload []byte) api.Entry {
	return api.Entry{Seq: len(l), Prev: headOf(l), Com: comOf(salt, payload), Salt: salt, Payload: payload}
}

func added(l []api.Entry, salt uint64, payload []byte) []api.Entry {
	return append(own(l), behind(l, salt, slices.Clone(payload)))
}

// isRight is whether an entry is right behind a head, as P24.2 says it.
func isRight(x api.Entry, i int, head [32]byte) bool {
	none := x.Salt == 0 && len(x.Payload) == 0
	told := x.Com == comOf(x.Salt, x.Payload)
	return x.Seq == i && x.Prev == head && (x.Redacted && none || !x.Redacted && told)
}

// verified is Verify as P24.2 says it.
func verified(l []api.Entry, head [32]byte, n int) (int, bool) {
	var last [32]byte
	for i, x := range l {
		if !isRight(x, i, last) {
			return i, false
		}
		last = linkOf(x.Seq, x.Prev, x.Com)
	}
	return len(l), last == head && len(l) == n
}

// told is an entry's bytes, put together of a first byte, the 32 of a commitment, a salt told in any way, and a payload with how long it is.
func told(first byte, com [32]byte, salt []byte, payload []byte) []byte {
	return slices.Concat([]byte{first}, com[:], salt, numOf(uint64(len(payload))), payload)
}

// bytesOf is l as P24.4 says its bytes.
func bytesOf(l []api.Entry) []byte {
	var b []byte
	for _, x := range l {
		first := byte(0)
		if x.Redacted {
			first = 1
		}
		b = append(b, told(first, x.Com, numOf(x.Salt), x.Payload)...)
	}
	head := headOf(l)
	return append(b, head[:]...)
}

// guess reads bytes as entries, and what are none as others that have other bytes, or are not right.
func guess(b []byte) []api.Entry {
	next := func() byte {
		if len(b) == 0 {
			return 0
		}
		v := b[0]
		b = b[1:]
		return v
	}
	num := func() uint64 {
		n := uint64(0)
		for range next() {
			n = n<<8 + uint64(next())
		}
		return n
	}
	var l []api.Entry
	for len(b) > headSize && len(l) <= mostAudit {
		x := api.Entry{Seq: len(l), Prev: headOf(l), Redacted: next() == 1}
		for i := range x.Com {
			x.Com[i] = next()
		}
		x.Salt = num()
		for range min(num(), mostPayload+1) {
			x.Payload = append(x.Payload, next())
		}
		l = append(l, x)
	}
	return l
}

// readOf is the entries whose bytes are b, and whether there are such as Get answers.
func readOf(b []byte) ([]api.Entry, bool) {
	l := guess(b)
	_, right := verified(l, headOf(l), len(l))
	for _, x := range l {
		right = right && len(x.Payload) <= mostPayload
	}
	return l, right && len(l) <= mostAudit && bytes.Equal(bytesOf(l), b)
}

// What is asked of each function, and that rule 3 holds of it.

func headTo(t *testing.T, l []api.Entry, want [32]byte) {
	t.Helper()
	in := roomyList(l)
	was := all(in)
	if h := chain.Head(in); h != want {
		t.Errorf("Head(%s): %x, not %x", shown(l), h, want)
	}
	if all(in) != was {
		t.Errorf("Head changed what was handed in, %s, or what stands behind it: %s", shown(l), shown(in))
	}
}

// addTo asks for an answer of Add, and that it shares nothing with what is handed in.
func addTo(t *testing.T, l []api.Entry, salt uint64, payload []byte, want []api.Entry) {
	t.Helper()
	in, p := roomyList(l), roomy(payload)
	was, bytesWere := all(in), string(p[:cap(p)])
	m := chain.Add(in, salt, p)
	if !isSame(m, want) {
		t.Errorf("Add(%s, %d, %x): %s, not %s", shown(l), salt, short(string(payload)), shown(m), shown(want))
		return
	}
	if all(in) != was || string(p[:cap(p)]) != bytesWere {
		t.Errorf("Add changed what was handed in, %s and %x, or what stands behind it: %s and %x", shown(l), short(string(payload)), shown(in), short(string(p)))
	}
	spoil(in)
	spoilBytes(p)
	apart(t, "Add", m, want)
	in, p = roomyList(l), roomy(payload)
	spoil(chain.Add(in, salt, p))
	if all(in) != was || string(p[:cap(p)]) != bytesWere {
		t.Errorf("the answer of Add shares memory with what was handed in, %s and %x", shown(l), short(string(payload)))
	}
}

// apart asks that a list that was answered is still as it was, and that nothing of it stands behind another part of it.
func apart(t *testing.T, what string, m, want []api.Entry) {
	t.Helper()
	if !isSame(m, want) {
		t.Errorf("the answer of %s shares memory with what was handed in: %s, not %s", what, shown(m), shown(want))
	}
	paint := func(i int) {
		b := m[i].Payload[:cap(m[i].Payload)]
		for k := range b {
			b[k] = byte(i*37 + k)
		}
	}
	clean := func() {
		t.Helper()
		for i, x := range m {
			for k, v := range x.Payload {
				if v != byte(i*37+k) {
					t.Fatalf("the payload %d of an answer of %s shares memory with another one", i, what)
				}
			}
		}
	}
	for i := range m {
		paint(i)
	}
	clean()
	for i := range m {
		paint(len(m) - 1 - i)
	}
	clean()
}

func verifyTo(t *testing.T, l []api.Entry, head [32]byte, n, place int, want bool) {
	t.Helper()
	in := roomyList(l)
	was := all(in)
	if i, ok := chain.Verify(in, head, n); i != place || ok != want {
		t.Errorf("Verify(%s, %x, %d): %d %v, not %d %v", shown(l), head, n, i, ok, place, want)
	}
	if all(in) != was {
		t.Errorf("Verify changed what was handed in, %s, or what stands behind it: %s", shown(l), shown(in))
	}
}

// verify holds Verify against the tests' own reckoning, and tells whether it verifies.
func verify(t *testing.T, l []api.Entry, head [32]byte, n int) bool {
	t.Helper()
	place, ok := verified(l, head, n)
	verifyTo(t, l, head, n, place, ok)
	return ok
}

// right asks that l verifies with its head and its length, and with no other ones.
func right(t *testing.T, l []api.Entry) {
	t.Helper()
	head := headOf(l)
	verifyTo(t, l, head, len(l), len(l), true)
	for _, n := range append(places(len(l)), len(l)-1, len(l)+1) {
		if n != len(l) {
			verifyTo(t, l, head, n, len(l), false)
		}
	}
	for i := range head {
		other := head
		other[i] ^= 1 << (i % 8)
		verifyTo(t, l, other, len(l), len(l), false)
	}
}

// wrong asks that the first entry of l that is not right is the one at a place, whatever the head and the length.
func wrong(t *testing.T, l []api.Entry, place int) {
	t.Helper()
	for _, head := range [][32]byte{headOf(l), headOf(l[:place]), {}} {
		for _, n := range []int{len(l), place, -1} {
			verifyTo(t, l, head, n, place, false)
		}
	}
}

func redactTo(t *testing.T, l []api.Entry, i int, want []api.Entry, err api.Errno) {
	t.Helper()
	in := roomyList(l)
	was := all(in)
	m, e := chain.Redact(in, i)
	if !isSame(m, want) || e != err {
		t.Errorf("Redact(%s, %d): %s, error %d, not %s, error %d", shown(l), i, shown(m), e, shown(want), err)
		return
	}
	if all(in) != was {
		t.Errorf("Redact changed what was handed in, %s, or what stands behind it: %s", shown(l), shown(in))
	}
	spoil(in)
	apart(t, "Redact", m, want)
	in = roomyList(l)
	m, _ = chain.Redact(in, i)
	spoil(m)
	if all(in) != was {
		t.Errorf("the answer of Redact shares memory with what was handed in, %s: %s", shown(l), shown(in))
	}
}

// redact holds Redact against the tests' own reckoning.
func redact(t *testing.T, l []api.Entry, i int) api.Errno {
	t.Helper()
	e := api.Errno(errNone)
	for k, x := range l {
		if k == i && x.Redacted {
			e = errState
		} else if k == i {
			e = fine
		}
	}
	if e == fine {
		redactTo(t, l, i, without(l, i), fine)
	} else {
		redactTo(t, l, i, nil, e)
	}
	return e
}

// putTo asks for a list's bytes, that they share nothing with it, and what is got of them.
func putTo(t *testing.T, l []api.Entry, want []byte) {
	t.Helper()
	in := roomyList(l)
	was := all(in)
	b := chain.Put(in)
	if !bytes.Equal(b, want) {
		t.Errorf("Put(%s): %s, not %s", shown(l), short(fmt.Sprint(b)), short(fmt.Sprint(want)))
	}
	if all(in) != was {
		t.Errorf("Put changed what was handed in, %s, or what stands behind it: %s", shown(l), shown(in))
	}
	spoilBytes(b)
	if all(in) != was {
		t.Errorf("the answer of Put shares memory with %s", shown(l))
	}
	b = chain.Put(in)
	spoil(in)
	if !bytes.Equal(b, want) {
		t.Errorf("the answer of Put turns with what was handed in: %s, not %s", short(fmt.Sprint(b)), short(fmt.Sprint(want)))
	}
}

func getTo(t *testing.T, b []byte, want []api.Entry, err api.Errno) {
	t.Helper()
	in := roomy(b)
	was := slices.Clone(in[:cap(in)])
	l, e := chain.Get(in)
	if !isSame(l, want) || e != err {
		t.Errorf("Get(%s): %s, error %d, not %s, error %d", short(fmt.Sprint(b)), shown(l), e, shown(want), err)
		return
	}
	if !bytes.Equal(in[:cap(in)], was) {
		t.Errorf("Get changed %s to %s", short(fmt.Sprint(was)), short(fmt.Sprint(in[:cap(in)])))
	}
	spoilBytes(in)
	apart(t, "Get", l, want)
	in = roomy(b)
	l, _ = chain.Get(in)
	spoil(l)
	if !bytes.Equal(in[:cap(in)], was) {
		t.Errorf("the answer of Get shares memory with %s", short(fmt.Sprint(was)))
	}
}

// none asks that b is the bytes of no entries that Get answers.
func none(t *testing.T, b []byte) {
	t.Helper()
	getTo(t, b, nil, errText)
}

// get holds Get against the tests' own reckoning, and tells whether there are entries.
func get(t *testing.T, b []byte) bool {
	t.Helper()
	l, is := readOf(b)
	if is {
		getTo(t, b, l, fine)
	} else {
		none(t, b)
	}
	return is
}

// sameTo asks both ways whether two lists are the same.
func sameTo(t *testing.T, a, b []api.Entry, want bool) {
	t.Helper()
	x, y := roomyList(a), roomyList(b)
	wasX, wasY := all(x), all(y)
	if chain.Same(x, y) != want || chain.Same(y, x) != want || chain.Same(a, b) != want {
		t.Errorf("Same(%s, %s): not %v", shown(a), shown(b), want)
	}
	if all(x) != wasX || all(y) != wasY {
		t.Errorf("Same changed %s or %s", shown(a), shown(b))
	}
}
