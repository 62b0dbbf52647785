package chain_test

import (
	"hanaper/api"
	"hanaper/chain"
	"testing"
)

// P24.3.

func TestRedactByHand(t *testing.T) {
	a, b := byHand()[0], byHand()[1]
	goneA := api.Entry{Seq: 0, Com: unhex(comA), Redacted: true}
	goneB := api.Entry{Seq: 1, Prev: unhex(headA), Com: unhex(comB), Redacted: true}
	redactTo(t, []api.Entry{a, b}, 0, []api.Entry{goneA, b}, fine)
	redactTo(t, []api.Entry{a, b}, 1, []api.Entry{a, goneB}, fine)
	redactTo(t, []api.Entry{a, goneB}, 0, []api.Entry{goneA, goneB}, fine)
	redactTo(t, []api.Entry{a, goneB}, 1, nil, errState)
	redactTo(t, []api.Entry{goneA, b}, 0, nil, errState)
	redactTo(t, []api.Entry{a, b}, 2, nil, errNone)
	redactTo(t, []api.Entry{a, b}, -1, nil, errNone)
	redactTo(t, []api.Entry{goneA, goneB}, 2, nil, errNone)
	redactTo(t, nil, 0, nil, errNone)
	redactTo(t, []api.Entry{}, 0, nil, errNone)
	redactTo(t, nil, -1, nil, errNone)
	redactTo(t, []api.Entry{{}}, 0, []api.Entry{{Redacted: true}}, fine)
	redactTo(t, []api.Entry{{Redacted: true}}, 0, nil, errState)
}

// Each place of lists of all kinds, and the numbers that are no place; then each place once more.
func TestRedactEach(t *testing.T) {
	for _, l := range append(some(), long(mostAudit), long(mostAudit+1)) {
		for i := range l {
			if l[i].Redacted {
				redactTo(t, l, i, nil, errState)
				continue
			}
			m := without(l, i)
			redactTo(t, l, i, m, fine)
			redactTo(t, m, i, nil, errState)
			redact(t, m, i-1)
			redact(t, m, i+1)
		}
		for _, i := range places(len(l)) {
			if i < 0 || i >= len(l) {
				redactTo(t, l, i, nil, errNone)
			}
		}
	}
}

// A redacted entry with a Salt or a Payload is redacted all the same.
func TestRedactOfAnOddOne(t *testing.T) {
	for _, x := range []api.Entry{
		{Salt: 1, Redacted: true}, {Payload: []byte("a"), Redacted: true}, {Seq: -1, Prev: filled(1), Com: filled(2), Salt: 5, Payload: []byte("abc"), Redacted: true},
	} {
		redactTo(t, []api.Entry{x}, 0, nil, errState)
		redactTo(t, []api.Entry{x, byHand()[0]}, 0, nil, errState)
		redactTo(t, []api.Entry{x, byHand()[0]}, 1, []api.Entry{x, without(byHand(), 0)[0]}, fine)
	}
	for _, p := range payloads() {
		redactTo(t, []api.Entry{{Seq: -7, Prev: filled(3), Com: filled(4), Salt: 9, Payload: p}}, 0, []api.Entry{{Seq: -7, Prev: filled(3), Com: filled(4), Redacted: true}}, fine)
	}
	for _, salt := range salts() {
		redactTo(t, []api.Entry{{Salt: salt}}, 0, []api.Entry{{Redacted: true}}, fine)
	}
}

// P24.5: in any order of three, and of all that there are.
func TestRedactAllOrders(t *testing.T) {
	for _, order := range [][]int{{0, 1, 2}, {0, 2, 1}, {1, 0, 2}, {1, 2, 0}, {2, 0, 1}, {2, 1, 0}} {
		l := byHand()
		for k, i := range order {
			var e api.Errno
			l, e = chain.Redact(l, i)
			if want := without(byHand(), order[:k+1]...); e != fine || !isSame(l, want) {
				t.Errorf("%v redacted: %s, error %d, not %s", order[:k+1], shown(l), e, shown(want))
			}
			verifyTo(t, l, unhex(headC), 3, 3, true)
			headTo(t, l, unhex(headC))
		}
		for i := range l {
			redactTo(t, l, i, nil, errState)
		}
	}
	l := long(mostAudit)
	for i := range mostAudit {
		k := i * 77 % mostAudit // 77 and 120 have no divisor in common
		l, _ = chain.Redact(l, k)
	}
	if !isSame(l, without(long(mostAudit), every(mostAudit, 1)...)) {
		t.Errorf("all redacted: %s", shown(l))
	}
	right(t, l)
	headTo(t, l, headOf(long(mostAudit)))
}

// Several answers from one list share nothing with one another.
func TestRedactTwice(t *testing.T) {
	l := byHand()
	a, _ := chain.Redact(l, 0)
	b, _ := chain.Redact(l, 1)
	c, _ := chain.Redact(a, 1)
	spoil(a)
	if !isSame(b, without(l, 1)) || !isSame(c, without(l, 0, 1)) || !isSame(l, byHand()) {
		t.Errorf("answers of Redact share memory: %s, %s, %s", shown(b), shown(c), shown(l))
	}
}

// Behind redacted entries a chain goes on as it would have.
func TestAddBehindRedacted(t *testing.T) {
	for at := range 8 {
		var gone []int
		for i := range 3 {
			if at>>i&1 == 1 {
				gone = append(gone, i)
			}
		}
		l := without(byHand(), gone...)
		m := chain.Add(l, 50, []byte("more"))
		want := append(own(l), added(byHand(), 50, []byte("more"))[3])
		if !isSame(m, want) {
			t.Errorf("added behind %s: %s, not %s", shown(l), shown(m), shown(want))
		}
		right(t, m)
	}
}
