package due_test

import (
	"hanaper/api"
	"hanaper/due"
	"math"
	"math/rand"
	"slices"
	"testing"
)

// Against the tests' own reckoning: what is thrown, right and wrong.

// pick is one of l.
func pick[T any](d *rand.Rand, l ...T) T {
	return l[d.Intn(len(l))]
}

func thrownName(d *rand.Rand) string {
	return pick(d, "a", "a", "b", "b", "c", "d", "ingest", "ab", "")
}

func thrownTick(d *rand.Rand) int {
	switch d.Intn(10) {
	case 0:
		return pick(d, edges()...)
	case 1:
		return d.Intn(mostClock + 1)
	case 2:
		return mostClock - d.Intn(2*mostDays)
	}
	return d.Intn(40)
}

func thrownDays(d *rand.Rand) int {
	switch d.Intn(10) {
	case 0:
		return pick(d, edges()...)
	case 1:
		return d.Intn(mostDays+1) >> d.Intn(21)
	}
	return d.Intn(40)
}

func thrownMiles(d *rand.Rand) []api.Mile {
	var l []api.Mile
	for range d.Intn(10) {
		l = append(l, at(thrownName(d), thrownTick(d)))
	}
	return l
}

// thrown is a condition, at most so deep, put together by ops.
func thrown(d *rand.Rand, deep int, ops ...int) api.Expr {
	if deep == 1 || d.Intn(4) == 0 {
		return after(thrownDays(d), thrownName(d))
	}
	x := api.Expr{Op: pick(d, ops...)}
	for range d.Intn(5) {
		x.Kids = append(x.Kids, thrown(d, 1+d.Intn(deep-1), ops...))
	}
	return x
}

// odd is x, at some of its places something that it may not have.
func odd(d *rand.Rand, x api.Expr) api.Expr {
	switch d.Intn(12) {
	case 0:
		x.Op = pick(d, append(strange(), opAfter, opOr, opAnd)...)
	case 1:
		x.Days, x.Mile = thrownDays(d), thrownName(d)
	case 2:
		x.Kids = append(x.Kids[:len(x.Kids):len(x.Kids)], after(thrownDays(d), thrownName(d)))
	}
	kids := slices.Clone(x.Kids)
	for i, k := range kids {
		kids[i] = odd(d, k)
	}
	x.Kids = kids
	return x
}

func TestThrownConditions(t *testing.T) {
	d := rand.New(rand.NewSource(191))
	count := map[bool]int{}
	for range 60000 {
		miles := thrownMiles(d)
		x := thrown(d, 1+d.Intn(6), opOr, opAnd)
		_, known := when(t, x, miles...)
		count[known]++
		_, known = when(t, odd(d, x), miles...)
		count[known]++
	}
	if count[true] < 20000 || count[false] < 20000 {
		t.Errorf("known and not: %v", count)
	}
}

func thrownClass(d *rand.Rand) string { return pick(d, "", "hr", "tax", "x", "A b") }

func thrownRules(d *rand.Rand) []api.Rule {
	var l []api.Rule
	for range d.Intn(6) {
		l = append(l, of(thrownClass(d), odd(d, thrown(d, 1+d.Intn(4), opOr, opAnd)), pick(d, destroy, review, keep, 0, -1, 4, math.MaxInt)))
	}
	return l
}

func thrownRec(d *rand.Rand) api.Rec {
	return api.Rec{Id: thrownName(d), Case: thrownName(d), Sub: thrownName(d), Class: thrownClass(d), Tick: thrownTick(d), State: d.Intn(6)}
}

func TestThrownRules(t *testing.T) {
	d := rand.New(rand.NewSource(192))
	count := map[bool]int{}
	for range 60000 {
		r, c := thrownRec(d), api.Case{Id: thrownName(d), Miles: thrownMiles(d)}
		milesTo(t, r, c, append([]api.Mile{at("ingest", r.Tick)}, c.Miles...)...)
		count[ofAll(t, thrownRules(d), r, c)]++
	}
	if count[true] < 10000 || count[false] < 10000 {
		t.Errorf("known and not: %v", count)
	}
}

func TestThrownPuts(t *testing.T) {
	d := rand.New(rand.NewSource(193))
	count := map[bool]int{}
	for range 60000 {
		l := slices.Grow(thrownMiles(d), d.Intn(3))
		m := at(pick(d, thrownName(d), "new", "other"), thrownTick(d))
		may := len(l) < mostMiles && !slices.ContainsFunc(l, func(k api.Mile) bool { return k.Name == m.Name })
		putTo(t, l, m, may)
		count[may]++
	}
	if count[true] < 10000 || count[false] < 10000 {
		t.Errorf("put and not: %v", count)
	}
}

// P19.3.

// turn is how the answer turned with milestones more.
type turn int

const (
	stays turn = iota
	earlier
	comesUp // was not known, is known
	lost    // was known, is not known
	later
)

func turned(tick int, known bool, then int, is bool) turn {
	switch {
	case known && !is:
		return lost
	case !known && is:
		return comesUp
	case then < tick:
		return earlier
	case then > tick:
		return later
	}
	return stays
}

// longer holds what P19.3 says of x, with one milestone more behind the others, and one more behind these, and so on; it counts the turns.
func longer(t *testing.T, d *rand.Rand, x api.Expr, plain bool, count *[5]int) {
	t.Helper()
	miles := thrownMiles(d)
	first, ahead := due.When(x, miles)
	tick, known := first, ahead
	for range 1 + d.Intn(4) {
		miles = append(miles, at(thrownName(d), thrownTick(d)))
		then, is := due.When(x, miles)
		how := turned(tick, known, then, is)
		if how == lost || how == later && plain {
			t.Errorf("When(%s, %s): %d, %v, and with all but the last one: %d, %v", short(shown(x)), shown(miles), then, is, tick, known)
		}
		count[how]++
		tick, known = then, is
	}
	if all := turned(first, ahead, tick, known); all == lost || all == later && plain {
		t.Errorf("When(%s, %s): %d, %v, and at first: %d, %v", short(shown(x)), shown(miles), tick, known, first, ahead)
	}
}

// Without ExAnd: as early, or earlier; what was known stays known.
func TestMoreMilestones(t *testing.T) {
	d := rand.New(rand.NewSource(194))
	var count [5]int
	for range 60000 {
		longer(t, d, thrown(d, 1+d.Intn(6), opOr), true, &count)
	}
	if min(count[stays], count[earlier], count[comesUp]) < 2000 {
		t.Errorf("the turns: %v", count)
	}
}

// With ExAnd: what was known stays known.
func TestMoreMilestonesWithAnd(t *testing.T) {
	d := rand.New(rand.NewSource(195))
	var count [5]int
	for range 60000 {
		x := thrown(d, 1+d.Intn(6), opOr, opAnd)
		longer(t, d, x, false, &count)
		longer(t, d, odd(d, x), false, &count)
	}
	if min(count[stays], count[earlier], count[comesUp]) < 2000 {
		t.Errorf("the turns: %v", count)
	}
}

// One more of a name that is there turns nothing; nor does one that is not asked.
func TestMoreThatTurnNothing(t *testing.T) {
	d := rand.New(rand.NewSource(196))
	for range 30000 {
		x, miles := thrown(d, 1+d.Intn(5), opOr, opAnd), thrownMiles(d)
		tick, known := due.When(x, miles)
		whenTo(t, x, append(miles, at("unasked", thrownTick(d))), tick, known)
		if len(miles) > 0 {
			whenTo(t, x, append(miles, at(pick(d, miles...).Name, thrownTick(d))), tick, known)
		}
	}
}

// By hand: what comes up, what comes earlier, and what a fact that is not known, or the first of its name, keeps as it is.
func TestMoreMilestonesByHand(t *testing.T) {
	a, b, late := at("a", 10), at("b", 20), at("b", 1)
	x := or(after(5, "a"), after(1, "b"))
	unknown(t, x)
	whenTo(t, x, []api.Mile{a}, 15, true)
	whenTo(t, x, []api.Mile{a, b}, 15, true)
	whenTo(t, x, []api.Mile{a, late}, 2, true)
	whenTo(t, x, []api.Mile{a, b, late}, 15, true)
	whenTo(t, x, []api.Mile{b}, 21, true)
	whenTo(t, x, []api.Mile{b, a}, 15, true)
	y := and(after(5, "a"), after(1, "b"))
	unknown(t, y, a)
	whenTo(t, y, []api.Mile{a, b}, 21, true)
	whenTo(t, y, []api.Mile{a, b, late, at("a", 0)}, 21, true)
	whenTo(t, or(after(40, "a"), y), []api.Mile{a}, 50, true)
	whenTo(t, or(after(40, "a"), y), []api.Mile{a, b}, 21, true)
}

// Of a record: what is put to its case's milestones keeps what is known, and its act, and takes it no later.
func TestPutAndOf(t *testing.T) {
	d := rand.New(rand.NewSource(197))
	var count [5]int
	for range 60000 {
		l, r := thrownRules(d), thrownRec(d)
		miles := thrownMiles(d)
		more, ok := due.Put(miles, at(pick(d, thrownName(d), "c", "d"), thrownTick(d)))
		if !ok {
			continue
		}
		tick, act, known := due.Of(l, r, caseOf(miles...))
		then, does, is := due.Of(l, r, caseOf(more...))
		how := turned(tick, known, then, is)
		if how == lost || known && does != act {
			t.Errorf("Of(%s, %s, %v): %d, %d, %v, and without the last one: %d, %d, %v", short(shown(l)), shown(r), more, then, does, is, tick, act, known)
		}
		count[how]++
	}
	if count[comesUp] < 500 || count[earlier] < 50 {
		t.Errorf("the turns: %v", count)
	}
}
