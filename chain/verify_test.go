package chain_test

import (
	"hanaper/api"
	"hanaper/chain"
	"math"
	"slices"
	"testing"
)

// P24.2.

func TestVerifyByHand(t *testing.T) {
	verifyTo(t, byHand()[:1], unhex(headA), 1, 1, true)
	verifyTo(t, byHand()[:2], unhex(headB), 2, 2, true)
	verifyTo(t, byHand(), unhex(headC), 3, 3, true)
	verifyTo(t, byHand(), unhex(headB), 3, 3, false)
	verifyTo(t, byHand(), unhex(headC), 2, 3, false)
	verifyTo(t, byHand()[:2], unhex(headC), 3, 2, false)
	verifyTo(t, byHand()[:2], unhex(headA), 1, 2, false)
	verifyTo(t, byHand()[1:], unhex(headC), 3, 0, false)
	verifyTo(t, turned(byHand(), 1, func(x *api.Entry) { x.Payload = []byte("z") }), unhex(headC), 3, 1, false)
	for _, l := range [][]api.Entry{without(byHand(), 0), without(byHand(), 1), without(byHand(), 2), without(byHand(), 0, 1, 2)} {
		verifyTo(t, l, unhex(headC), 3, 3, true)
		verifyTo(t, l, unhex(headC), 4, 3, false)
		verifyTo(t, l, unhex(headB), 3, 3, false)
	}
}

func TestVerifyNone(t *testing.T) {
	for _, l := range [][]api.Entry{nil, {}} {
		right(t, l)
		verifyTo(t, l, [32]byte{}, 0, 0, true)
		verifyTo(t, l, [32]byte{}, 1, 0, false)
		verifyTo(t, l, [32]byte{}, -1, 0, false)
		verifyTo(t, l, filled(1), 0, 0, false)
		verifyTo(t, l, unhex(headA), 0, 0, false)
		verifyTo(t, l, unhex(headA), 1, 0, false)
	}
	for i := range 256 {
		var head [32]byte
		head[i/8] = 1 << (i % 8)
		verifyTo(t, nil, head, 0, 0, false)
	}
}

// Right chains: of no entries, of some, of as many as may be and of more, with payloads of more bytes than Get reads.
func TestVerifyRight(t *testing.T) {
	for _, n := range []int{0, 1, 2, 3, 7, 20, mostAudit - 1, mostAudit, mostAudit + 1, 300} {
		right(t, long(n))
		right(t, without(long(n), every(n, 1)...))
		right(t, without(long(n), every(n, 3)...))
	}
	for _, p := range payloads() {
		right(t, chainOf(string(p), "", string(p)))
		right(t, without(chainOf(string(p), "", string(p)), 0))
	}
	for _, salt := range salts() {
		right(t, added(added(nil, salt, []byte("a")), salt, nil))
	}
}

// every is each k'th place of n.
func every(n, k int) []int {
	var at []int
	for i := 0; i < n; i += k {
		at = append(at, i)
	}
	return at
}

// Each entry with another Seq, Prev, Salt or Payload: that one is told.
func TestVerifyTurned(t *testing.T) {
	for _, l := range [][]api.Entry{byHand()[:1], byHand(), long(9), without(long(9), 0, 4, 8), without(long(9), every(9, 1)...)} {
		for i, x := range l {
			for _, seq := range append(places(i), i-1, i+1, -i-1) {
				if seq != i {
					wrong(t, turned(l, i, func(x *api.Entry) { x.Seq = seq }), i)
				}
			}
			for k := range 32 {
				wrong(t, turned(l, i, func(x *api.Entry) { x.Prev[k] ^= 1 << (k % 8) }), i)
			}
			wrong(t, turned(l, i, func(x *api.Entry) { x.Prev = filled(7) }), i)
			if i > 0 {
				wrong(t, turned(l, i, func(x *api.Entry) { x.Prev = [32]byte{} }), i)
				wrong(t, turned(l, i, func(x *api.Entry) { x.Prev = headOf(l) }), i)
			}
			for _, salt := range salts() {
				if salt != x.Salt {
					wrong(t, turned(l, i, func(x *api.Entry) { x.Salt = salt }), i)
				}
			}
			for _, p := range payloads() {
				if string(p) != string(x.Payload) && len(p) <= 300 {
					wrong(t, turned(l, i, func(x *api.Entry) { x.Payload = p }), i)
					wrong(t, turned(l, i, func(x *api.Entry) { x.Payload = append(slices.Clip(x.Payload), p...); x.Salt++ }), i)
				}
			}
			if !x.Redacted {
				wrong(t, turned(l, i, func(x *api.Entry) { x.Payload, x.Salt = []byte{0}, 0 }), i)
			}
		}
	}
}

// Another Com: of a payload that is there that one is told, of a redacted one the next, whose Prev it is not; behind the last one only the head tells it.
func TestVerifyAnotherCom(t *testing.T) {
	l := long(6)
	for i := range l {
		for k := range 32 {
			m := turned(l, i, func(x *api.Entry) { x.Com[k] ^= 1 << (k % 8) })
			wrong(t, m, i)
			gone := without(m, i)
			if i+1 < len(l) {
				wrong(t, gone, i+1)
				continue
			}
			verifyTo(t, gone, headOf(l), len(l), len(l), false)
			right(t, gone)
		}
		// Another payload with its own commitment.
		m := turned(l, i, func(x *api.Entry) { x.Com, x.Payload = comOf(x.Salt, []byte("z")), []byte("z") })
		if i+1 < len(l) {
			wrong(t, m, i+1)
			continue
		}
		verifyTo(t, m, headOf(l), len(l), len(l), false)
		right(t, m)
	}
}

// Redacted entries with what a redacted one has not, and others that only say that they are redacted, or are not.
func TestVerifyRedacted(t *testing.T) {
	l := long(6)
	for i := range l {
		m := without(l, i)
		right(t, m)
		for _, salt := range []uint64{1, 2, 255, l[i].Salt + 1, 1 << 32, 1 << 63, math.MaxUint64} {
			wrong(t, turned(m, i, func(x *api.Entry) { x.Salt = salt }), i)
			wrong(t, turned(m, i, func(x *api.Entry) { x.Salt, x.Payload = salt, []byte("p") }), i)
			wrong(t, turned(m, i, func(x *api.Entry) { x.Salt, x.Payload, x.Com = salt, []byte("p"), comOf(salt, []byte("p")) }), i)
			wrong(t, turned(m, i, func(x *api.Entry) { x.Salt, x.Com = salt, comOf(salt, nil) }), i)
		}
		for _, p := range payloads() {
			if len(p) > 0 {
				wrong(t, turned(m, i, func(x *api.Entry) { x.Payload = p }), i)
				wrong(t, turned(m, i, func(x *api.Entry) { x.Payload, x.Com = p, comOf(0, p) }), i)
			}
		}
		if i > 0 { // the entry 0 has the salt 0 and no payload
			wrong(t, turned(m, i, func(x *api.Entry) { x.Redacted = false }), i)
			wrong(t, turned(l, i, func(x *api.Entry) { x.Redacted = true }), i)
		}
	}
	// The entry with the salt 0 and no payload is right, redacted or not.
	right(t, byHand())
	right(t, turned(byHand(), 2, func(x *api.Entry) { x.Redacted = true }))
	right(t, turned(byHand(), 2, func(x *api.Entry) { x.Redacted, x.Payload = true, []byte{} }))
	// A redacted one is right with whatever Com, if what is behind it stands on that.
	right(t, linked([]api.Entry{{Com: filled(1), Redacted: true}, {Com: comOf(5, []byte("a")), Salt: 5, Payload: []byte("a")}, {Redacted: true}}))
}

// Entries exchanged, left out, doubled.
func TestVerifyOtherOrder(t *testing.T) {
	for _, l := range [][]api.Entry{long(7), without(long(7), every(7, 1)...), chainOf("a", "a", "a", "a", "a", "a", "a")} {
		head := headOf(l)
		for i := range l {
			for k := range i {
				m := own(l)
				m[i], m[k] = m[k], m[i]
				wrong(t, m, k)
				m = own(l)
				m[i] = m[k]
				wrong(t, m, i)
				m = own(l)
				m[k] = m[i]
				wrong(t, m, k)
			}
			left := slices.Delete(own(l), i, i+1)
			if i+1 < len(l) {
				wrong(t, left, i)
			} else {
				verifyTo(t, left, head, len(l), len(left), false)
				verifyTo(t, left, head, len(left), len(left), false)
				right(t, left)
			}
			wrong(t, slices.Insert(own(l), i, l[i]), i+1)
			wrong(t, slices.Insert(own(l), i, l[len(l)-1], l[0]), min(i, len(l)-1)+cut(i == len(l)-1))
			verifyTo(t, l[:i], head, i, i, false)
			verifyTo(t, l[:i], head, len(l), i, false)
			verifyTo(t, l[:i], headOf(l[:i]), i, i, true)
		}
		m := own(l)
		slices.Reverse(m)
		wrong(t, m, 0)
		wrong(t, append(own(l), l...), len(l))
	}
}

// cut is 1, if the entry that is put in is the one that belongs there.
func cut(is bool) int {
	if is {
		return 1
	}
	return 0
}

// Of two wrong places the first is told.
func TestVerifyTheFirst(t *testing.T) {
	bad := []func(x *api.Entry){
		func(x *api.Entry) { x.Seq += 100 },
		func(x *api.Entry) { x.Prev[3]++ },
		func(x *api.Entry) { x.Salt++ },
		func(x *api.Entry) { x.Payload = []byte("bad") },
		func(x *api.Entry) { x.Com[30]++ },
		func(x *api.Entry) { x.Redacted, x.Payload = true, []byte("bad") },
		func(x *api.Entry) { *x = api.Entry{Seq: -5} },
	}
	l := long(6)
	for i := range l {
		for k := range i {
			for _, f := range bad {
				for _, g := range bad {
					wrong(t, turned(turned(l, i, f), k, g), k)
				}
			}
		}
	}
	for i := range 40 {
		wrong(t, turned(turned(long(40), 39, bad[0]), i, bad[3]), i)
	}
}

// Lists of which hardly anything is right.
func TestVerifyStrange(t *testing.T) {
	wrong(t, strange(1), 0)
	wrong(t, strange(9), 0)
	wrong(t, []api.Entry{{}}, 0)
	right(t, []api.Entry{{Redacted: true}})
	right(t, []api.Entry{{Com: unhex(comC)}})
	wrong(t, []api.Entry{{Redacted: true}, {}}, 1)
	for _, l := range some() {
		for _, n := range []int{len(l), len(l) - 1, len(l) + 1, 0, -1, math.MinInt, math.MaxInt} {
			for _, head := range [][32]byte{{}, headOf(l), filled(255), unhex(headB)} {
				verify(t, l, head, n)
			}
		}
		verify(t, append(own(l), byHand()...), unhex(headC), 3)
		verify(t, append(byHand(), l...), headOf(l), len(l)+3)
		verify(t, linked(l), headOf(linked(l)), len(l))
	}
}

// Many entries.
func TestVerifyMany(t *testing.T) {
	l := long(5000)
	head := headOf(l)
	if n, ok := chain.Verify(l, head, 5000); n != 5000 || !ok {
		t.Errorf("5000 entries: %d %v", n, ok)
	}
	for _, i := range []int{0, 1, 2500, 4998, 4999} {
		l[i].Salt++
		if n, ok := chain.Verify(l, head, 5000); n != i || ok {
			t.Errorf("5000 entries, of which %d is wrong: %d %v", i, n, ok)
		}
		l[i].Salt--
	}
}

// The same answer again.
func TestAgain(t *testing.T) {
	for range 3 {
		for _, l := range some() {
			headTo(t, l, headOf(l))
			verify(t, l, headOf(l), len(l))
			addTo(t, l, 3, []byte("again"), added(l, 3, []byte("again")))
			redact(t, l, 0)
			redact(t, l, len(l)-1)
			putTo(t, l, bytesOf(l))
			get(t, bytesOf(l))
			sameTo(t, l, own(l), true)
		}
	}
}
