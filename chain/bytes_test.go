package chain_test

import (
	"bytes"
	"fmt"
	"hanaper/api"
	"hanaper/chain"
	"math"
	"slices"
	"testing"
)

// P24.4, Put and Get.

// hand is bytes put together by hand: numbers, bytes, and 32 bytes written as digits.
func hand(parts ...any) []byte {
	var b []byte
	for _, p := range parts {
		switch v := p.(type) {
		case int:
			b = append(b, byte(v))
		case []byte:
			b = append(b, v...)
		case string:
			sum := unhex(v)
			b = append(b, sum[:]...)
		default:
			panic("no part of bytes")
		}
	}
	return b
}

// bothTo asks that the bytes of l are these, and that l is got of them.
func bothTo(t *testing.T, l []api.Entry, b []byte) {
	t.Helper()
	putTo(t, l, b)
	getTo(t, b, l, fine)
}

func TestBytesByHand(t *testing.T) {
	nothing := make([]byte, 32)
	bothTo(t, nil, nothing)
	bothTo(t, []api.Entry{}, nothing)
	a, b, c := hand(0, comA, 1, 7, 1, 1, 97), hand(0, comB, 2, 1, 44, 1, 2, 98, 99), hand(0, comC, 0, 0)
	bothTo(t, byHand()[:1], hand(a, headA))
	bothTo(t, byHand()[:2], hand(a, b, headB))
	bothTo(t, byHand(), hand(a, b, c, headC))
	goneA, goneB, goneC := hand(1, comA, 0, 0), hand(1, comB, 0, 0), hand(1, comC, 0, 0)
	bothTo(t, without(byHand()[:2], 0), hand(goneA, b, headB))
	bothTo(t, without(byHand()[:2], 1), hand(a, goneB, headB))
	bothTo(t, without(byHand()[:2], 0, 1), hand(goneA, goneB, headB))
	bothTo(t, without(byHand(), 1, 2), hand(a, goneB, goneC, headC))
	none(t, hand(a, b, headA))
	none(t, hand(a, headB))
	none(t, hand(b, a, headB))
	none(t, hand(a, a, headB))
	none(t, hand(b, headB))
	none(t, hand(headB))
	none(t, hand(a, b))
	none(t, hand(a, b, c))
	none(t, hand(a, b, headB, headB))
	none(t, hand(headB, a, b, headB))
	none(t, hand(a, headA, b, headB))
	none(t, hand(a, headA, a, headA))
	none(t, hand(a, b, nothing))
	none(t, hand(nothing, a, headA))
}

// Lists that do not verify are put all the same. What is told of them is then none's bytes, or those of a right list.
func TestBytesOfWrong(t *testing.T) {
	for _, l := range append(some(), long(mostAudit+1), strange(200)) {
		putTo(t, l, bytesOf(l))
		get(t, bytesOf(l))
	}
	one := hand(0, comB, 3, 1, 0, 0, 1, 1, 0)
	putTo(t, []api.Entry{{Seq: -1, Prev: unhex(headA), Com: unhex(comB), Salt: 1 << 16, Payload: []byte{0}}}, hand(one, "8ab8a4156596c832ed36c366ced97d98ed6c94da3912d248dc1c98409af3f660"))
	none(t, hand(one, "8ab8a4156596c832ed36c366ced97d98ed6c94da3912d248dc1c98409af3f660"))
	putTo(t, []api.Entry{{Salt: math.MaxUint64, Redacted: true}}, hand(1, make([]byte, 32), 8, 255, 255, 255, 255, 255, 255, 255, 255, 0, linkBytes(0, [32]byte{}, [32]byte{})))
	// Of all but the last neither Seq nor Prev is told.
	for i := range 3 {
		seq := turned(byHand(), i, func(x *api.Entry) { x.Seq = 9 })
		prev := turned(byHand(), i, func(x *api.Entry) { x.Prev = filled(9) })
		for _, l := range [][]api.Entry{seq, prev} {
			b := bytesOf(l)
			putTo(t, l, b)
			if i < 2 {
				getTo(t, b, byHand(), fine)
			} else {
				none(t, b)
			}
		}
	}
}

func linkBytes(seq int, prev, com [32]byte) []byte {
	b := linkOf(seq, prev, com)
	return b[:]
}

func TestBytesSaltsAndPayloads(t *testing.T) {
	for _, p := range payloads() {
		for _, l := range [][]api.Entry{chainOf(string(p)), chainOf("a", string(p)), chainOf(string(p), "b"), chainOf(string(p), string(p), string(p))} {
			putTo(t, l, bytesOf(l))
			if len(p) <= mostPayload {
				getTo(t, bytesOf(l), l, fine)
			} else {
				none(t, bytesOf(l))
			}
			at := every(len(l), 1)
			bothTo(t, without(l, at...), bytesOf(without(l, at...)))
		}
	}
	for _, salt := range salts() {
		for _, p := range []string{"", "a", string(make([]byte, mostPayload))} {
			l := added(added(nil, salt, []byte(p)), salt, nil)
			bothTo(t, l, bytesOf(l))
		}
	}
}

// Payloads of each number of bytes: 100 are read, 101 are not.
func TestGetPayloadsOfEachLength(t *testing.T) {
	for n := range 300 {
		for place := range 3 {
			parts := []string{"a", "b", "c"}
			parts[place] = string(bytes.Repeat([]byte{byte(n)}, n))
			l := chainOf(parts...)
			putTo(t, l, bytesOf(l))
			if n <= 100 {
				getTo(t, bytesOf(l), l, fine)
			} else {
				none(t, bytesOf(l))
			}
			gone := without(l, place)
			getTo(t, bytesOf(gone), gone, fine)
		}
	}
}

func TestGetOfEachLength(t *testing.T) {
	for n := range 130 {
		for _, l := range [][]api.Entry{long(n), without(long(n), every(n, 1)...), without(long(n), every(n, 2)...), chainOf(make([]string, n)...)} {
			putTo(t, l, bytesOf(l))
			if n <= 120 {
				getTo(t, bytesOf(l), l, fine)
			} else {
				none(t, bytesOf(l))
			}
		}
	}
	none(t, bytesOf(long(1000)))
	// Where there are too many the 121st is not read: what stands there is not another error.
	b := bytesOf(long(mostAudit))
	for _, more := range [][]byte{{0}, {2}, make([]byte, 35), bytesOf(long(1)), bytes.Repeat([]byte{255}, 100)} {
		none(t, slices.Concat(b, more))
		none(t, slices.Concat(b[:len(b)-headSize], more, b[len(b)-headSize:]))
	}
}

// Each text with one byte more, one less, and each byte another one.
func TestGetTurned(t *testing.T) {
	for _, c := range []struct {
		l    []api.Entry
		more int // of how many of the bytes another one tells a right list: of those ahead of entries with the salt 0 and no payload
	}{
		{nil, 0}, {byHand()[:1], 0}, {byHand()[:2], 0}, {byHand(), 1}, {without(byHand(), 1), 1}, {without(byHand(), 2), 1}, {without(byHand(), 0, 1), 1},
		{without(byHand(), 0, 1, 2), 1}, {chainOf("", ""), 0}, {added(added(nil, 0, nil), 0, nil), 2}, {added(nil, 0, []byte{0}), 0}, {added(nil, 1<<40, bytes.Repeat([]byte("x"), 20)), 0},
	} {
		b := bytesOf(c.l)
		count := 0
		for i := range b {
			for v := range 256 {
				other := slices.Clone(b)
				other[i] = byte(v)
				if v != int(b[i]) && get(t, other) {
					count++
				}
			}
			none(t, slices.Delete(slices.Clone(b), i, i+1))
			none(t, b[:i])
			none(t, b[i+1:])
		}
		if count != c.more {
			t.Errorf("%d other texts than that of %s are right with one byte another one, not %d", count, shown(c.l), c.more)
		}
		for i := range len(b) + 1 {
			for _, v := range []byte{0, 1, 2, 7, 97, 255} {
				none(t, slices.Insert(slices.Clone(b), i, v))
			}
		}
		none(t, slices.Concat(b, b))
		none(t, slices.Concat(b, make([]byte, 32)))
		none(t, slices.Concat(make([]byte, 32), b))
	}
}

// Which of two right texts it is hangs on the first byte alone, where the salt is 0 and there is no payload.
func TestGetRedactedOrNot(t *testing.T) {
	com := comOf(0, nil)
	plain, gone := []api.Entry{{Com: com}}, []api.Entry{{Com: com, Redacted: true}}
	head := linkOf(0, [32]byte{}, com)
	bothTo(t, plain, hand(0, com[:], 0, 0, head[:]))
	bothTo(t, gone, hand(1, com[:], 0, 0, head[:]))
}

func TestGetFewBytes(t *testing.T) {
	none(t, nil)
	none(t, []byte{})
	for n := range 100 {
		for _, v := range []byte{0, 1, 2, 32, 97, 255} {
			b := bytes.Repeat([]byte{v}, n)
			if n == headSize && v == 0 {
				getTo(t, b, nil, fine)
			} else {
				none(t, b)
			}
		}
	}
	for i := range 256 {
		var head [32]byte
		head[i/8] = 1 << (i % 8)
		none(t, head[:])
	}
	none(t, hand(headA))
	none(t, linkBytes(0, [32]byte{}, [32]byte{}))
	// The fewest bytes of an entry, and the head.
	gone := []api.Entry{{Com: filled(1), Redacted: true}}
	b := bytesOf(gone)
	if len(b) != 67 {
		t.Errorf("%d bytes", len(b))
	}
	getTo(t, b, gone, fine)
	none(t, b[1:])
	none(t, b[:66])
}

// The first byte is 0 or 1.
func TestGetFirstByte(t *testing.T) {
	for v := 2; v < 256; v++ {
		for i := range 3 {
			for _, l := range [][]api.Entry{byHand(), without(byHand(), 0, 1, 2), linked(make([]api.Entry, 3))} {
				var b []byte
				for k, x := range l {
					first := 0
					if x.Redacted {
						first = 1
					}
					if k == i {
						first = v
					}
					b = append(b, told(byte(first), x.Com, numOf(x.Salt), x.Payload)...)
				}
				head := headOf(l)
				none(t, append(b, head[:]...))
			}
		}
	}
}

// Numbers told in more bytes than are wanted, or in more than a number has.
func TestGetNumbers(t *testing.T) {
	for _, salt := range salts() {
		x := behind(nil, salt, []byte("abc"))
		head := linkOf(x.Seq, x.Prev, x.Com)
		com := x.Com[:]
		n := numOf(salt)
		getTo(t, hand(0, com, n, 1, 3, []byte("abc"), head[:]), []api.Entry{x}, fine)
		for more := 1; len(n)-1+more <= 10; more++ {
			none(t, hand(0, com, len(n)-1+more, make([]byte, more), n[1:], 1, 3, []byte("abc"), head[:]))
		}
		none(t, hand(0, com, len(n), n[1:], 1, 3, []byte("abc"), head[:]))
		none(t, hand(0, com, n[1:], 1, 3, []byte("abc"), head[:]))
		none(t, hand(0, com, n, 2, 0, 3, []byte("abc"), head[:]))
		none(t, hand(0, com, n, 8, 0, 0, 0, 0, 0, 0, 0, 3, []byte("abc"), head[:]))
		none(t, hand(0, com, n, 9, 0, 0, 0, 0, 0, 0, 0, 0, 3, []byte("abc"), head[:]))
		none(t, hand(0, com, n, 3, []byte("abc"), head[:]))
		for _, size := range []int{0, 1, 2, 4, 5, 34, 35, 36, 99, 100, 101, 255} {
			none(t, hand(0, com, n, numOf(uint64(size)), []byte("abc"), head[:]))
		}
		for _, size := range []uint64{256, 1 << 31, 1 << 32, 1<<32 + 3, 1<<63 - 1, 1 << 63, 1<<63 + 3, math.MaxUint64 - 2, math.MaxUint64} {
			none(t, hand(0, com, n, numOf(size), []byte("abc"), head[:]))
		}
	}
	x := behind(nil, 0, nil)
	head := linkOf(x.Seq, x.Prev, x.Com)
	getTo(t, hand(0, x.Com[:], 0, 0, head[:]), []api.Entry{x}, fine)
	none(t, hand(0, x.Com[:], 1, 0, 0, head[:]))
	none(t, hand(0, x.Com[:], 0, 1, 0, head[:]))
	none(t, hand(1, x.Com[:], 1, 0, 0, head[:]))
	none(t, hand(1, x.Com[:], 0, 1, 0, head[:]))
}

// Entries that are not right, in texts whose head is right.
func TestGetNotRight(t *testing.T) {
	for i := range 5 {
		for _, f := range []func(x *api.Entry){
			func(x *api.Entry) { x.Salt++ },
			func(x *api.Entry) { x.Salt = math.MaxUint64 },
			func(x *api.Entry) { x.Payload = append(x.Payload, 0) },
			func(x *api.Entry) { x.Payload = []byte("other") },
			func(x *api.Entry) { x.Com[0]++ },
			func(x *api.Entry) { x.Com = [32]byte{} },
			func(x *api.Entry) { x.Redacted = true },
			func(x *api.Entry) { x.Redacted, x.Salt = true, 0 },
			func(x *api.Entry) { x.Redacted, x.Payload = true, nil },
			func(x *api.Entry) { x.Redacted, x.Salt, x.Payload = true, 1, nil },
			func(x *api.Entry) { x.Redacted, x.Salt, x.Payload = true, 0, []byte{0} },
			func(x *api.Entry) { x.Redacted, x.Salt, x.Payload = true, 1<<63, make([]byte, 100) },
			func(x *api.Entry) { x.Salt, x.Payload = 0, nil },
		} {
			l := chainOf("a", "bc", "def", "g", "hi")
			none(t, bytesOf(linked(turned(l, i, f))))
			none(t, bytesOf(linked(turned(without(l, 0, 1, 2, 3, 4), i, func(x *api.Entry) { f(x); x.Salt |= 1 }))))
		}
		// A redacted one with any Com is right, if the head is that of this.
		l := linked(turned(without(chainOf("a", "bc", "def", "g", "hi"), i), i, func(x *api.Entry) { x.Com[0]++ }))
		getTo(t, bytesOf(l), l, fine)
	}
}

// The entries in another order, left out, doubled: with the head of before, and with the one that they then have, which is right.
func TestGetOtherOrder(t *testing.T) {
	l := chainOf("a", "bc", "", "def")
	head := headOf(l)
	for code := range 5 * 5 * 5 * 5 {
		var m []api.Entry
		for k := code; k > 0; k /= 5 {
			if k%5 > 0 {
				m = append(m, l[k%5-1])
			}
		}
		m = linked(m)
		b := bytesOf(m)
		getTo(t, b, m, fine)
		other := append(b[:len(b)-headSize], head[:]...)
		if isSame(m, l) {
			getTo(t, other, l, fine)
		} else {
			none(t, other)
		}
	}
}

// Very many bytes.
func TestGetOfMany(t *testing.T) {
	for _, part := range [][]byte{{0}, {1}, {255}, {0, 1}, bytesOf(nil), bytesOf(byHand()), told(1, filled(1), []byte{0}, nil), told(0, comOf(0, nil), []byte{0}, nil)} {
		for _, n := range []int{1000, 1 << 16} {
			if l, e := chain.Get(bytes.Repeat(part, n)); len(l) > 0 || e != errText {
				t.Errorf("Get of %s, %d times: %s, error %d", short(fmt.Sprint(part)), n, shown(l), e)
			}
		}
	}
}

// Same.

func TestSame(t *testing.T) {
	lists := some()
	for i, a := range lists {
		for k, b := range lists {
			sameTo(t, a, b, i == k || isSame(a, b))
		}
		sameTo(t, a, own(a), true)
		sameTo(t, a, append(own(a), api.Entry{}), false)
		sameTo(t, append([]api.Entry{{}}, a...), append(own(a), api.Entry{}), isSame(append([]api.Entry{{}}, a...), append(own(a), api.Entry{})))
	}
	sameTo(t, nil, []api.Entry{}, true)
	sameTo(t, nil, []api.Entry{{}}, false)
	sameTo(t, []api.Entry{{}}, []api.Entry{{Payload: []byte{}}}, true)
	sameTo(t, []api.Entry{{}}, []api.Entry{{Payload: []byte{0}}}, false)
}

// Lists that are unlike in each one field at each place, and in length.
func TestSameEachField(t *testing.T) {
	for _, l := range [][]api.Entry{byHand(), strange(6), without(long(6), 2, 3), make([]api.Entry, 4)} {
		for i := range l {
			for _, f := range []func(x *api.Entry){
				func(x *api.Entry) { x.Seq++ },
				func(x *api.Entry) { x.Seq = ^x.Seq },
				func(x *api.Entry) { x.Seq ^= 1 << 32 },
				func(x *api.Entry) { x.Seq ^= math.MinInt },
				func(x *api.Entry) { x.Salt++ },
				func(x *api.Entry) { x.Salt ^= 1 << 32 },
				func(x *api.Entry) { x.Salt ^= 1 << 63 },
				func(x *api.Entry) { x.Payload = append(x.Payload, 0) },
				func(x *api.Entry) { x.Payload = append([]byte{1}, x.Payload...) },
				func(x *api.Entry) { x.Redacted = !x.Redacted },
				func(x *api.Entry) { x.Prev, x.Com = x.Com, filled(200) },
				func(x *api.Entry) { *x = api.Entry{Seq: -77} },
			} {
				sameTo(t, l, turned(l, i, f), false)
			}
			for k := range 32 {
				sameTo(t, l, turned(l, i, func(x *api.Entry) { x.Prev[k] ^= 1 << (k % 8) }), false)
				sameTo(t, l, turned(l, i, func(x *api.Entry) { x.Com[k] ^= 1 << (k % 8) }), false)
			}
			for k := range l[i].Payload {
				sameTo(t, l, turned(l, i, func(x *api.Entry) { x.Payload[k]++ }), false)
				sameTo(t, l, turned(l, i, func(x *api.Entry) { x.Payload = x.Payload[:k] }), false)
			}
			sameTo(t, l, l[:i], false)
			sameTo(t, l, slices.Insert(own(l), i, l[i]), false)
			sameTo(t, l, slices.Insert(own(l), i, api.Entry{}), false)
			sameTo(t, l, own(l), true)
		}
	}
}
