package chain_test

import (
	"bytes"
	"hanaper/api"
	"hanaper/chain"
	"math/rand"
	"slices"
	"testing"
)

// Against the tests' own reckoning: what is thrown, right and wrong.

// pick is one of l.
func pick[T any](d *rand.Rand, l ...T) T {
	return l[d.Intn(len(l))]
}

func thrownSalt(d *rand.Rand) uint64 {
	return pick(d, 0, 1, pick(d, salts()...), d.Uint64()>>d.Intn(64))
}

// thrownPayload has at most 100 bytes, and often few.
func thrownPayload(d *rand.Rand) []byte {
	b := make([]byte, pick(d, 0, 1, d.Intn(5), d.Intn(mostPayload+1), mostPayload))
	d.Read(b)
	return b
}

// thrown is a right chain of n entries at most, made by the tests' own reckoning, with some of them redacted.
func thrown(d *rand.Rand, n int) []api.Entry {
	var l []api.Entry
	for range d.Intn(n + 1) {
		l = append(l, behind(l, thrownSalt(d), thrownPayload(d)))
	}
	share := d.Intn(4)
	for i := range l {
		if d.Intn(4) < share {
			l = without(l, i)
		}
	}
	return l
}

// odd is l with one thing that is another one, or happens to be the same.
func odd(d *rand.Rand, l []api.Entry) []api.Entry {
	l = own(l)
	if len(l) == 0 {
		return []api.Entry{{Seq: d.Intn(2), Prev: filled(byte(d.Intn(2))), Redacted: d.Intn(2) == 0}}
	}
	i, k := d.Intn(len(l)), d.Intn(len(l))
	switch x := &l[i]; d.Intn(12) {
	case 0:
		x.Seq = pick(d, x.Seq-1, x.Seq+1, k, int(d.Uint64()), -1)
	case 1:
		x.Prev[d.Intn(32)] ^= 1 << d.Intn(8)
	case 2:
		x.Com[d.Intn(32)] ^= 1 << d.Intn(8)
	case 3:
		x.Salt = thrownSalt(d)
	case 4:
		x.Payload = thrownPayload(d)
	case 5:
		x.Redacted = !x.Redacted
	case 6:
		l[i], l[k] = l[k], l[i]
	case 7:
		l = slices.Delete(l, i, i+1)
	case 8:
		l = slices.Insert(l, i, own(l[k:k+1])...)
	case 9: // another payload with its own commitment
		x.Redacted, x.Salt, x.Payload = false, thrownSalt(d), thrownPayload(d)
		x.Com = comOf(x.Salt, x.Payload)
	case 10:
		x.Prev, x.Com = l[k].Com, l[k].Prev
	case 11: // a payload of more bytes than Get reads, and all behind it right
		x.Redacted, x.Payload = false, make([]byte, mostPayload+1)
		x.Com = comOf(x.Salt, x.Payload)
		l = linked(l)
	}
	return l
}

func TestThrownLists(t *testing.T) {
	d := rand.New(rand.NewSource(241))
	count, reads, errs := map[bool]int{}, map[bool]int{}, map[api.Errno]int{}
	for range 6000 {
		l := thrown(d, pick(d, 2, 5, 12))
		head, n := headOf(l), len(l)
		right := verify(t, l, head, n)
		if !right {
			t.Errorf("%s is right, and does not verify", shown(l))
		}
		m := l
		for range d.Intn(3) {
			m = odd(d, m)
		}
		count[verify(t, m, head, n)]++
		count[verify(t, m, headOf(m), len(m))]++
		verify(t, m, headOf(m[:d.Intn(len(m)+1)]), pick(d, n, len(m), n-1, n+1, d.Intn(5)))
		headTo(t, m, headOf(m))
		salt, p := thrownSalt(d), thrownPayload(d)
		addTo(t, m, salt, p, added(m, salt, p))
		errs[redact(t, m, d.Intn(len(m)+3)-1)]++
		putTo(t, m, bytesOf(m))
		reads[get(t, bytesOf(m))]++
		sameTo(t, l, m, isSame(l, m))
		o := odd(d, m)
		sameTo(t, m, o, isSame(m, o))
	}
	if count[true] < 3000 || count[false] < 3000 || reads[true] < 2000 || reads[false] < 1500 || errs[fine] < 1500 || errs[errState] < 1000 || errs[errNone] < 1500 {
		t.Errorf("verified: %v, read: %v, errors: %v", count, reads, errs)
	}
}

// Texts of right chains, turned here and there, and thrown ones.
func TestThrownBytes(t *testing.T) {
	d := rand.New(rand.NewSource(242))
	count := map[bool]int{}
	for range 4000 {
		l := thrown(d, 5)
		b := bytesOf(l)
		getTo(t, b, l, fine)
		i := d.Intn(len(b))
		c := slices.Clone(b)
		c[i] = byte(d.Intn(256))
		count[get(t, c)]++
		c[i] = b[i] ^ 1<<d.Intn(8)
		count[get(t, c)]++
		for k, v := range b { // the first byte of an entry, maybe
			if v < 2 && d.Intn(20) == 0 {
				c = slices.Clone(b)
				c[k] = 1 - v
				count[get(t, c)]++
			}
		}
		count[get(t, slices.Delete(c, i, i+1))]++
		count[get(t, slices.Insert(slices.Clone(b), i, byte(d.Intn(20))))]++
		count[get(t, slices.Concat(b[:i], b[d.Intn(len(b)):]))]++
		count[get(t, bytesOf(odd(d, l)))]++
		z := make([]byte, d.Intn(120))
		for i := range z {
			z[i] = byte(pick(d, 0, 0, 0, 1, 1, 2, d.Intn(256)))
		}
		count[get(t, z)]++
		d.Read(z)
		count[get(t, z)]++
		// An entry of thrown bytes with its right head: right, if it is redacted.
		if len(z) > 65 {
			x := told(z[0]%3, [32]byte(z[1:33]), numOf(uint64(z[33]%2)), z[34:34+z[34]%2])
			head := linkOf(0, [32]byte{}, [32]byte(z[1:33]))
			count[get(t, append(x, head[:]...))]++
		}
	}
	if count[true] < 1000 || count[false] < 20000 {
		t.Errorf("entries and none: %v", count)
	}
}

// P24.5: what was added verifies, with its Head and its length, whatever is redacted, and is got as it was put.
func TestThrownRedacted(t *testing.T) {
	d := rand.New(rand.NewSource(243))
	for range 600 {
		var l, want []api.Entry
		n := pick(d, d.Intn(4), d.Intn(20), d.Intn(20), d.Intn(mostAudit+1))
		for range n {
			salt, p := thrownSalt(d), thrownPayload(d)
			l = chain.Add(l, salt, p)
			want = append(want, behind(want, salt, p))
		}
		head := chain.Head(l)
		order := d.Perm(n)
		for k, i := range order[:d.Intn(n+1)] {
			m, e := chain.Redact(l, i)
			if e != fine || chain.Same(l, m) {
				t.Fatalf("the %dth redacted, %d: error %d, and the lists are the same: %v", k, i, e, chain.Same(l, m))
			}
			l, want = m, without(want, i)
			if got, ok := chain.Verify(l, head, n); got != n || !ok || chain.Head(l) != head {
				t.Fatalf("%s, of which %v is redacted: Verify %d %v, Head %x, not %x", shown(l), order[:k+1], got, ok, chain.Head(l), head)
			}
			if _, e := chain.Redact(l, i); e != errState {
				t.Fatalf("redacted twice: error %d", e)
			}
		}
		b := chain.Put(l)
		m, e := chain.Get(b)
		if e != fine || !chain.Same(l, m) || !isSame(l, m) || !isSame(l, want) || !bytes.Equal(chain.Put(m), b) {
			t.Fatalf("put and got: %s, error %d, not %s, nor %s", shown(m), e, shown(l), shown(want))
		}
		if got, ok := chain.Verify(m, head, n); got != n || !ok {
			t.Fatalf("got, and verified: %d %v", got, ok)
		}
		// It goes on, as if nothing were redacted.
		l = chain.Add(l, 5, []byte("more"))
		if got, ok := chain.Verify(l, chain.Head(l), n+1); got != n+1 || !ok {
			t.Fatalf("verified with one more: %d %v", got, ok)
		}
	}
}

// P24.6: of two chains that verify with one head and one length, all is the same that neither has redacted.
func TestThrownPairs(t *testing.T) {
	d := rand.New(rand.NewSource(244))
	count, unlike := map[bool]int{}, 0
	for range 20000 {
		c := thrown(d, 6)
		head, n := chain.Head(c), len(c)
		a, b := c, c
		for range d.Intn(4) {
			if x, e := chain.Redact(a, d.Intn(n+1)); e == fine {
				a = x
			}
		}
		switch d.Intn(3) {
		case 0:
			b = odd(d, c)
		case 1:
			b = odd(d, odd(d, a))
		case 2:
			b = linked(odd(d, c))
		}
		for range d.Intn(3) {
			if x, e := chain.Redact(b, d.Intn(n+1)); e == fine {
				b = x
			}
		}
		_, one := chain.Verify(a, head, n)
		_, two := chain.Verify(b, head, n)
		if !one {
			t.Fatalf("%s, redacted: %s does not verify", shown(c), shown(a))
		}
		count[two]++
		if !two {
			continue
		}
		if len(a) != len(b) {
			t.Fatalf("%s and %s: two lengths", shown(a), shown(b))
		}
		for i, x := range a {
			y := b[i]
			if x.Seq != y.Seq || x.Prev != y.Prev || x.Com != y.Com {
				t.Fatalf("%s and %s: the entry %d", shown(a), shown(b), i)
			}
			if !x.Redacted && !y.Redacted && (x.Salt != y.Salt || !bytes.Equal(x.Payload, y.Payload)) {
				t.Fatalf("%s and %s: the payload %d", shown(a), shown(b), i)
			}
		}
		if !chain.Same(a, b) {
			unlike++
		}
	}
	if count[true] < 2000 || count[false] < 5000 || unlike < 1000 {
		t.Errorf("verified: %v, of which %d are redacted in other places", count, unlike)
	}
}
