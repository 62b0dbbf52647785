package due_test

import (
	"hanaper/api"
	"hanaper/due"
	"math"
	"slices"
	"strings"
	"testing"
	"unsafe"
)

// P19.2: Miles.

func TestMiles(t *testing.T) {
	a, b := at("a", 10), at("b", 20)
	milesTo(t, api.Rec{}, api.Case{}, at("ingest", 0))
	milesTo(t, rec("q", 7), api.Case{Miles: []api.Mile{}}, at("ingest", 7))
	milesTo(t, rec("q", 7), caseOf(a), at("ingest", 7), a)
	milesTo(t, rec("q", 7), caseOf(b, a), at("ingest", 7), b, a)
	milesTo(t, rec("q", 7), caseOf(a, b, a, a), at("ingest", 7), a, b, a, a)
	for _, tick := range edges() {
		milesTo(t, rec("", tick), caseOf(a), at("ingest", tick), a)
		milesTo(t, rec("q", 3), caseOf(at("a", tick), b), at("ingest", 3), at("a", tick), b)
	}
	for _, s := range []string{"", "A", "a b", "or", "Ingest", "seventeen-letters", strings.Repeat("x", 1000)} {
		milesTo(t, rec("q", 3), caseOf(a, at(s, 4)), at("ingest", 3), a, at(s, 4))
	}
}

// Milestones of the case's named ingest stand behind the record's own.
func TestMilesNamedIngest(t *testing.T) {
	a, other := at("a", 10), at("ingest", 3)
	milesTo(t, rec("q", 7), caseOf(other), at("ingest", 7), other)
	milesTo(t, rec("q", 7), caseOf(a, other, a, other), at("ingest", 7), a, other, a, other)
	milesTo(t, rec("q", 3), caseOf(other), other, other)
}

// All of them, also more than MaxMiles.
func TestMilesOfAllNumbers(t *testing.T) {
	for n := range 40 {
		milesTo(t, rec("q", 7), caseOf(row(n)...), slices.Insert(row(n), 0, at("ingest", 7))...)
	}
	milesTo(t, rec("q", 7), caseOf(row(5000)...), slices.Insert(row(5000), 0, at("ingest", 7))...)
}

// Nothing but the record's Tick and the case's milestones counts.
func TestMilesOfOtherFields(t *testing.T) {
	a := at("a", 10)
	for _, r := range []api.Rec{{Tick: 7}, {Id: "ingest", Case: "other", Sub: "a", Class: "b", Tick: 7, State: api.StErased}, {Tick: 7, State: -9}} {
		milesTo(t, r, api.Case{Miles: []api.Mile{a}}, at("ingest", 7), a)
		milesTo(t, r, api.Case{Id: "a", Miles: []api.Mile{a}}, at("ingest", 7), a)
	}
}

// P19.2: Of.

func TestOfByClass(t *testing.T) {
	hr, tax, others := of("hr", after(1, "ingest"), destroy), of("tax", after(2, "ingest"), review), of("", after(3, "ingest"), keep)
	for _, l := range [][]api.Rule{{hr, tax, others}, {others, hr, tax}, {hr, others, tax}, {tax, others, hr}} {
		ofTo(t, l, rec("hr", 10), caseOf(), 11, destroy, true)
		ofTo(t, l, rec("tax", 10), caseOf(), 12, review, true)
		for _, s := range []string{"", "h", "hrr", "HR", "default", "other", " ", "hr\x00"} {
			ofTo(t, l, rec(s, 10), caseOf(), 13, keep, true)
		}
	}
	for _, l := range [][]api.Rule{{hr, tax}, {tax, hr}} {
		ofTo(t, l, rec("hr", 10), caseOf(), 11, destroy, true)
		for _, s := range []string{"", "h", "hrr", "HR", "default", "other"} {
			ofTo(t, l, rec(s, 10), caseOf(), 0, 0, false)
		}
	}
	for _, s := range []string{"", "hr", "other"} {
		ofTo(t, nil, rec(s, 10), caseOf(), 0, 0, false)
		ofTo(t, []api.Rule{}, rec(s, 10), caseOf(at("ingest", 1)), 0, 0, false)
		ofTo(t, []api.Rule{others}, rec(s, 10), caseOf(), 13, keep, true)
	}
}

// Of two rules of one class the first one counts, also if it is not known and the second one, or the default rule, would be.
func TestOfTwoOfAClass(t *testing.T) {
	one, two := of("hr", after(1, "ingest"), destroy), of("hr", after(2, "ingest"), review)
	never := of("hr", after(1, "none"), destroy)
	others, more, none := of("", after(3, "ingest"), keep), of("", after(4, "ingest"), review), of("", after(1, "none"), review)
	ofTo(t, []api.Rule{one, two}, rec("hr", 10), caseOf(), 11, destroy, true)
	ofTo(t, []api.Rule{two, others, one}, rec("hr", 10), caseOf(), 12, review, true)
	ofTo(t, []api.Rule{others, more, one}, rec("x", 10), caseOf(), 13, keep, true)
	ofTo(t, []api.Rule{more, others}, rec("hr", 10), caseOf(), 14, review, true)
	ofTo(t, []api.Rule{never, one, others}, rec("hr", 10), caseOf(), 0, 0, false)
	ofTo(t, []api.Rule{others, never, one}, rec("hr", 10), caseOf(), 0, 0, false)
	ofTo(t, []api.Rule{none, others}, rec("x", 10), caseOf(), 0, 0, false)
	ofTo(t, []api.Rule{none, one}, rec("hr", 10), caseOf(), 11, destroy, true)
}

// Each act, also such as no rule may have; 0 where it is not known.
func TestOfEachAct(t *testing.T) {
	for _, act := range append(strange(), destroy, review, keep) {
		for _, class := range []string{"", "hr"} {
			ofTo(t, []api.Rule{of(class, after(1, "ingest"), act)}, rec("hr", 10), caseOf(), 11, act, true)
			ofTo(t, []api.Rule{of(class, after(0, "ingest"), act)}, rec("hr", 0), caseOf(), 0, act, true)
			ofTo(t, []api.Rule{of(class, after(1, "none"), act)}, rec("hr", 10), caseOf(), 0, 0, false)
			ofTo(t, []api.Rule{of("other", after(1, "ingest"), act)}, rec("hr", 10), caseOf(), 0, 0, false)
		}
	}
}

// What a condition asks: the record's ingest, milestones of the case, both.
func TestOfWhatIsAsked(t *testing.T) {
	due := func(x api.Expr, tick int, want int, known bool, miles ...api.Mile) {
		t.Helper()
		act := 0
		if known {
			act = review
		}
		ofTo(t, []api.Rule{of("q", x, review)}, rec("q", tick), caseOf(miles...), want, act, known)
		ofTo(t, []api.Rule{of("", x, review)}, rec("q", tick), caseOf(miles...), want, act, known)
	}
	in, closed := after(5, "ingest"), after(730, "closed")
	due(in, 3, 8, true)
	due(in, 3, 8, true, at("closed", 10))
	due(in, 3, 8, true, at("ingest", 100)) // the record's own counts
	due(in, 100, 105, true, at("closed", 1), at("ingest", 3))
	due(closed, 3, 740, true, at("closed", 10))
	due(closed, 3, 740, true, at("left", 1), at("closed", 10), at("closed", 2))
	due(closed, 3, 0, false)
	due(closed, 3, 0, false, at("left", 10), at("ingest", 4))
	due(or(in, closed), 3, 8, true)
	due(or(in, closed), 3, 8, true, at("closed", 10))
	due(or(closed, in), 2000, 740, true, at("closed", 10))
	due(and(in, closed), 3, 0, false)
	due(and(in, closed), 3, 740, true, at("closed", 10))
	due(and(closed, in), 2000, 2005, true, at("closed", 10))
	due(or(), 3, 0, false, at("closed", 10))
	due(api.Expr{}, 3, 0, false, at("", 0))
	// Ticks at the edges: of the record, and of the case.
	due(in, 0, 5, true)
	due(in, mostClock-5, mostClock, true)
	for _, tick := range []int{-1, mostClock - 4, mostClock, mostClock + 1, math.MinInt, math.MaxInt} {
		due(in, tick, 0, false, at("ingest", 3))
		due(or(in, closed), tick, 740, true, at("closed", 10))
		due(and(in, closed), tick, 0, false, at("closed", 10))
		due(or(in, closed), 3, 8, true, at("closed", tick), at("closed", 0))
		due(and(in, closed), 3, 0, false, at("closed", tick), at("closed", 0))
	}
	// A milestone of the case's is asked, wherever it stands.
	for n := 1; n <= 20; n++ {
		l := row(n)
		for i := range n {
			due(after(1, l[i].Name), 3, l[i].Tick+1, true, l...)
		}
		due(after(1, "m20"), 3, 0, false, l...)
	}
}

// Nothing but the record's Class and Tick and the case's milestones counts.
func TestOfOtherFields(t *testing.T) {
	l := []api.Rule{of("q", and(after(1, "ingest"), after(1, "a")), destroy)}
	for _, r := range []api.Rec{{Class: "q", Tick: 7}, {Id: "x", Case: "other", Sub: "y", Class: "q", Tick: 7, State: api.StPurged}, {Class: "q", Tick: 7, State: -9}} {
		ofTo(t, l, r, api.Case{Miles: []api.Mile{at("a", 10)}}, 11, destroy, true)
		ofTo(t, l, r, api.Case{Id: "q", Miles: []api.Mile{at("a", 10)}}, 11, destroy, true)
	}
}

// P19.2: Put.

func TestPutOnNone(t *testing.T) {
	for _, m := range []api.Mile{{}, at("a", 10), at("ingest", 0), at("A b", -1), at("or", math.MaxInt), at(strings.Repeat("x", 1000), math.MinInt)} {
		putTo(t, nil, m, true)
		putTo(t, []api.Mile{}, m, true)
		putTo(t, make([]api.Mile, 0, 5), m, true)
	}
}

func TestPutOfAllNumbers(t *testing.T) {
	for n := range 40 {
		for room := range 4 {
			l := slices.Grow(row(n), room)
			clear(l[n:cap(l)])
			putTo(t, l, at("a", 5), n < mostMiles)
			putTo(t, l, at("", 5), n < mostMiles)
			for i := range n {
				putTo(t, l, l[i], false) // the same, at each place
				putTo(t, l, at(l[i].Name, -l[i].Tick-1), false)
				putTo(t, l, at(l[i].Name+"x", l[i].Tick), n < mostMiles) // of its Tick, and another name
				putTo(t, l, at(strings.ToUpper(l[i].Name), l[i].Tick), n < mostMiles)
			}
		}
	}
	putTo(t, row(5000), at("a", 5), false)
}

// What the milestones are that stand there does not count, but for their names.
func TestPutOnWhatMayNotBe(t *testing.T) {
	a := at("a", 10)
	putTo(t, []api.Mile{a, a}, at("b", 1), true)
	putTo(t, []api.Mile{a, a}, a, false)
	putTo(t, []api.Mile{at("", -1)}, a, true)
	putTo(t, []api.Mile{at("", -1)}, at("", 7), false)
	putTo(t, []api.Mile{a, at("", 1)}, at("", 7), false)
	putTo(t, slices.Repeat([]api.Mile{a}, mostMiles-1), at("b", 1), true)
	putTo(t, slices.Repeat([]api.Mile{a}, mostMiles), at("b", 1), false)
	putTo(t, []api.Mile{at("ingest", 3)}, at("ingest", 3), false)
	putTo(t, []api.Mile{at("b", 30), at("c", 20)}, at("a", 10), true) // behind them, whatever is lesser
	putTo(t, []api.Mile{at("b", 30), at("c", math.MaxInt)}, at("d", math.MinInt), true)
}

// Each number from none to the full list is put, and then no more.
func TestPutOneByOne(t *testing.T) {
	var l []api.Mile
	for i, m := range row(mostMiles) {
		putTo(t, l, m, true)
		more, ok := due.Put(l, m)
		if !ok || len(more) != i+1 {
			t.Fatalf("Put(%v, %v): %v, %v", l, m, more, ok)
		}
		l = more
		for _, k := range l {
			putTo(t, l, k, false)
		}
	}
	if !slices.Equal(l, row(mostMiles)) {
		t.Errorf("%v", l)
	}
	putTo(t, l, at("a", 5), false)
}

// Rule 3: what is answered shares nothing with what was handed in, nor with another answer.

// turning is a list of three milestones with room behind it, where others stand, its names' bytes, and what it reads as.
func turning() (l []api.Mile, name []byte, want []api.Mile) {
	name = []byte("mile-one-two")
	l = []api.Mile{at(unsafe.String(&name[0], 4), 1), at(unsafe.String(&name[5], 3), 2), at(unsafe.String(&name[9], 3), 3), at("behind", 4), at("it", 5)}
	return l[:3], name, []api.Mile{at("mile", 1), at("one", 2), at("two", 3)}
}

// spoil makes all that stands in l, and in the room behind it, something else.
func spoil(l []api.Mile) {
	l = l[:cap(l)]
	for i := range l {
		l[i] = at("spoilt", -i)
	}
}

// apart asks that answers, each as wanted, do not turn with what was handed in, nor with each other.
func apart(t *testing.T, l []api.Mile, name []byte, want []api.Mile, answer func() []api.Mile) {
	t.Helper()
	all := slices.Clone(l[:cap(l)])
	one, two := answer(), answer()
	spoil(one)
	if !slices.Equal(l[:cap(l)], all) {
		t.Errorf("what was handed in turns with an answer: %v, not %v", l[:cap(l)], all)
	}
	if !slices.Equal(two, want) {
		t.Errorf("an answer turns with another one: %v, not %v", two, want)
	}
	copy(name, "else-all-new")
	spoil(l)
	if !slices.Equal(two, want) {
		t.Errorf("an answer turns with what was handed in: %v, not %v", two, want)
	}
}

func TestPutSharesNothing(t *testing.T) {
	l, name, want := turning()
	apart(t, l, name, append(want, at("a", 9)), func() []api.Mile {
		more, _ := due.Put(l, at("a", 9))
		return more
	})
	l, name, want = turning()
	apart(t, l[:1], name, append(want[:1], at("two", 9)), func() []api.Mile {
		more, _ := due.Put(l[:1], at(unsafe.String(&name[9], 3), 9))
		return more
	})
	l, name, want = turning()
	apart(t, l[:0], name, want[:1], func() []api.Mile {
		more, _ := due.Put(l[:0], at(unsafe.String(&name[0], 4), 1))
		return more
	})
}

func TestMilesShareNothing(t *testing.T) {
	l, name, want := turning()
	apart(t, l, name, slices.Insert(want, 0, at("ingest", 9)), func() []api.Mile {
		return due.Miles(rec("q", 9), caseOf(l...))
	})
	l, name, want = turning()
	apart(t, l[:0], name, []api.Mile{at("ingest", 9)}, func() []api.Mile {
		return due.Miles(rec("q", 9), api.Case{Miles: l[:0]})
	})
}
