package chain_test

import (
	"bytes"
	"hanaper/api"
	"hanaper/chain"
	"math"
	"testing"
)

func TestLimits(t *testing.T) {
	if api.MaxAudit != mostAudit {
		t.Error("the limit is another one than the document's")
	}
	if api.OK != fine || api.ErrText != errText || api.ErrNone != errNone || api.ErrState != errState {
		t.Error("the errors are other ones than the document's")
	}
}

// P24.1, Head.

func TestHeadByHand(t *testing.T) {
	headTo(t, nil, [32]byte{})
	headTo(t, []api.Entry{}, [32]byte{})
	headTo(t, byHand()[:1], unhex(headA))
	headTo(t, byHand()[:2], unhex(headB))
	headTo(t, byHand(), unhex(headC))
	headTo(t, []api.Entry{{Seq: -1, Prev: unhex(headA), Com: unhex(comB)}}, unhex("8ab8a4156596c832ed36c366ced97d98ed6c94da3912d248dc1c98409af3f660"))
}

func TestHeadOfAnyLast(t *testing.T) {
	seqs := []int{0, 1, 2, 119, 255, 256, -1, -2, -256, math.MinInt, math.MinInt32, math.MaxInt32, math.MaxInt}
	for _, l := range [][]api.Entry{nil, byHand(), strange(3)} {
		for _, seq := range append(seqs, places(1)...) {
			for _, prev := range [][32]byte{{}, filled(1), filled(255), unhex(headA)} {
				for _, com := range [][32]byte{{}, filled(1), filled(255), unhex(comB)} {
					m := append(own(l), api.Entry{Seq: seq, Prev: prev, Com: com})
					headTo(t, m, linkOf(seq, prev, com))
				}
			}
		}
	}
	for i := range 32 {
		for bit := range 8 {
			x := byHand()[1]
			x.Prev[i] ^= 1 << bit
			headTo(t, []api.Entry{x}, linkOf(x.Seq, x.Prev, x.Com))
			x = byHand()[1]
			x.Com[i] ^= 1 << bit
			headTo(t, []api.Entry{x}, linkOf(x.Seq, x.Prev, x.Com))
		}
	}
}

// The other entries do not count, nor the Salt, the Payload and Redacted of the last one.
func TestHeadOfTheLastAlone(t *testing.T) {
	last := byHand()[1]
	for _, l := range some() {
		headTo(t, append(own(l), last), unhex(headB))
		headTo(t, l, headOf(l))
	}
	for _, salt := range salts() {
		last.Salt = salt
		headTo(t, []api.Entry{last}, unhex(headB))
	}
	for _, p := range payloads() {
		last.Payload = p
		headTo(t, []api.Entry{last}, unhex(headB))
		headTo(t, []api.Entry{{}, last}, unhex(headB))
	}
	last.Redacted = true
	headTo(t, []api.Entry{last}, unhex(headB))
}

// P24.1, Add.

func TestAddByHand(t *testing.T) {
	addTo(t, nil, 7, []byte("a"), byHand()[:1])
	addTo(t, []api.Entry{}, 7, []byte("a"), byHand()[:1])
	addTo(t, byHand()[:1], 300, []byte("bc"), byHand()[:2])
	addTo(t, byHand()[:2], 0, nil, byHand())
	addTo(t, byHand()[:2], 0, []byte{}, byHand())
	l := chain.Add(chain.Add(chain.Add(nil, 7, []byte("a")), 300, []byte("bc")), 0, nil)
	if !isSame(l, byHand()) {
		t.Errorf("three added: %s, not %s", shown(l), shown(byHand()))
	}
	// Behind a redacted entry all is as behind that entry.
	addTo(t, without(byHand()[:2], 1), 0, nil, without(byHand(), 1))
	addTo(t, without(byHand()[:2], 0, 1), 0, nil, without(byHand(), 0, 1))
}

// Salts and payloads, also payloads of more bytes than Get reads.
func TestAddSaltsAndPayloads(t *testing.T) {
	for _, l := range [][]api.Entry{nil, byHand()[:2], strange(3)} {
		for _, salt := range salts() {
			addTo(t, l, salt, []byte("pay"), added(l, salt, []byte("pay")))
			addTo(t, l, salt, nil, added(l, salt, nil))
		}
		for _, p := range payloads() {
			addTo(t, l, 0, p, added(l, 0, p))
			addTo(t, l, math.MaxUint64, p, added(l, math.MaxUint64, p))
		}
		for v := range 256 {
			addTo(t, l, 5, []byte{byte(v)}, added(l, 5, []byte{byte(v)}))
		}
	}
	much := bytes.Repeat([]byte("much"), 1<<18)
	addTo(t, byHand(), 5, much, added(byHand(), 5, much))
}

// To lists of whatever is in them: also such as do not verify, and such as have as many entries as may be, or more.
func TestAddToAnyList(t *testing.T) {
	for _, l := range append(some(), long(mostAudit-1), long(mostAudit), long(mostAudit+1), long(300)) {
		addTo(t, l, 9, []byte("z"), added(l, 9, []byte("z")))
		addTo(t, l, 0, nil, added(l, 0, nil))
	}
}

// The payload that is handed in may be one that stands in the list.
func TestAddOfTheListsOwn(t *testing.T) {
	l := own(byHand())
	m := chain.Add(l, 5, l[1].Payload)
	want := added(byHand(), 5, []byte("bc"))
	if !isSame(m, want) {
		t.Errorf("added: %s, not %s", shown(m), shown(want))
	}
	apart(t, "Add", m, want)
	if !isSame(l, byHand()) {
		t.Errorf("the list that was handed in is %s", shown(l))
	}
}

// Two chains that go on from one list have nothing in common but what stood there.
func TestAddTwice(t *testing.T) {
	for _, l := range some() {
		in := roomyList(l)
		a := chain.Add(in, 1, []byte("a"))
		b := chain.Add(in, 2, []byte("b"))
		c := chain.Add(a, 3, []byte("c"))
		d := chain.Add(a, 4, []byte("d"))
		wantA, wantB := added(l, 1, []byte("a")), added(l, 2, []byte("b"))
		wantC, wantD := added(wantA, 3, []byte("c")), added(wantA, 4, []byte("d"))
		if !isSame(a, wantA) || !isSame(b, wantB) || !isSame(c, wantC) || !isSame(d, wantD) {
			t.Errorf("two and two added to %s: %s, %s, %s, %s", shown(l), shown(a), shown(b), shown(c), shown(d))
		}
		spoil(a)
		if !isSame(b, wantB) || !isSame(c, wantC) || !isSame(d, wantD) {
			t.Errorf("answers of Add share memory")
		}
	}
}
