package due_test

import (
	"fmt"
	"hanaper/api"
	"hanaper/due"
	"math"
	"slices"
	"strconv"
	"testing"
)

// The limits and the kinds, as the document numbers them.
const (
	mostDays  = 1048576
	mostClock = 1099511627776
	mostMiles = 8
	mostDepth = 8

	opAfter = 1
	opOr    = 2
	opAnd   = 3

	destroy = 1
	review  = 2
	keep    = 3
)

// Conditions, milestones, rules, records and cases as they are written out by hand.

func after(days int, mile string, kids ...api.Expr) api.Expr {
	return api.Expr{Op: opAfter, Days: days, Mile: mile, Kids: kids}
}

func or(kids ...api.Expr) api.Expr  { return api.Expr{Op: opOr, Kids: kids} }
func and(kids ...api.Expr) api.Expr { return api.Expr{Op: opAnd, Kids: kids} }

func at(name string, tick int) api.Mile { return api.Mile{Name: name, Tick: tick} }

func of(class string, when api.Expr, act int) api.Rule {
	return api.Rule{Class: class, When: when, Act: act}
}

func rec(class string, tick int) api.Rec {
	return api.Rec{Id: "r", Case: "c", Sub: "s", Class: class, Tick: tick, State: api.StLive}
}

func caseOf(miles ...api.Mile) api.Case { return api.Case{Id: "c", Miles: miles} }

// times is n conditions, all like x.
func times(n int, x api.Expr) []api.Expr {
	return slices.Repeat([]api.Expr{x}, n)
}

// row is n milestones, each of another name.
func row(n int) []api.Mile {
	var l []api.Mile
	for i := range n {
		l = append(l, at("m"+strconv.Itoa(i), 10*i))
	}
	return l
}

// strange are ints that are no kind, also such as would wrap round to one.
func strange() []int {
	return []int{math.MinInt, math.MinInt + 1, math.MinInt32, -257, -256, -255, -3, -2, -1, 0, 4, 5, 6, 7, 8, 255, 256, 257, 258, 259, 1<<16 + 1, 1<<32 + 1, 1<<32 + 2, 1<<32 + 3, math.MaxInt - 1, math.MaxInt}
}

// edges are ints about 0 and both limits, and about some powers of 2, the least and the greatest one.
func edges() []int {
	l := []int{mostClock - mostDays, mostClock - mostDays - 1, mostClock - mostDays + 1}
	for _, n := range []int{0, 1 << 10, mostDays, 1 << 31, 1 << 32, mostClock, 1 << 41, 1 << 62} {
		l = append(l, n-1, n, n+1, -n-1, -n, -n+1)
	}
	return append(l, math.MinInt, math.MinInt+1, math.MaxInt, math.MaxInt-1)
}

// shown is all there is of something, as the tests' messages show it: of two that are not the same it is not the same.
func shown(x any) string {
	return fmt.Sprintf("%#v", x)
}

// short is a text as the tests' messages show it: of a long one only the ends.
func short(s string) string {
	if len(s) > 500 {
		return s[:300] + " .. " + s[len(s)-150:] + fmt.Sprint(", ", len(s), " bytes")
	}
	return s
}

// The tests' own reckoning.

// firsts are the ticks of milestones by their names: that of the first one of a name, which comes last from behind.
func firsts(miles []api.Mile) map[string]int {
	m := map[string]int{}
	for i := len(miles) - 1; i >= 0; i-- {
		m[miles[i].Name] = miles[i].Tick
	}
	return m
}

func within(n, most int) bool { return n >= 0 && n <= most }

// fact is when an ExAfter is due, and whether that is known.
func fact(x api.Expr, first map[string]int) (int, bool) {
	tick, there := first[x.Mile]
	if !there || !within(tick, mostClock) || !within(x.Days, mostDays) || tick+x.Days > mostClock {
		return 0, false
	}
	return tick + x.Days, true
}

// met is whether x is met at a tick.
func met(x api.Expr, first map[string]int, tick int) bool {
	count := 0
	for _, k := range x.Kids {
		if (x.Op == opOr || x.Op == opAnd) && met(k, first, tick) {
			count++
		}
	}
	switch x.Op {
	case opAfter:
		due, known := fact(x, first)
		return known && due <= tick
	case opOr:
		return count > 0
	case opAnd:
		return count > 0 && count == len(x.Kids)
	}
	return false
}

// facts are the ticks of all that is ExAfter in x, and known.
func facts(x api.Expr, first map[string]int) []int {
	var l []int
	if due, known := fact(x, first); known && x.Op == opAfter {
		l = append(l, due)
	}
	for _, k := range x.Kids {
		l = append(l, facts(k, first)...)
	}
	return l
}

// reckoned is what When is to answer: the first of the ticks at which a fact comes true at which x is met.
func reckoned(x api.Expr, miles []api.Mile) (int, bool) {
	first := firsts(miles)
	l := facts(x, first)
	slices.Sort(l)
	for _, tick := range l {
		if met(x, first, tick) {
			return tick, true
		}
	}
	return 0, false
}

// reckonedOf is what Of is to answer.
func reckonedOf(l []api.Rule, r api.Rec, c api.Case) (int, int, bool) {
	best := -1
	for i := len(l) - 1; i >= 0; i-- { // from behind: the first one comes last
		if l[i].Class == r.Class || l[i].Class == "" && (best < 0 || l[best].Class == "") {
			best = i
		}
	}
	if best < 0 {
		return 0, 0, false
	}
	miles := slices.Insert(slices.Clone(c.Miles), 0, at("ingest", r.Tick))
	tick, known := reckoned(l[best].When, miles)
	if !known {
		return 0, 0, false
	}
	return tick, l[best].Act, true
}

// whenTo holds When against what the document asks, and that nothing handed in is changed.
func whenTo(t *testing.T, x api.Expr, miles []api.Mile, want int, known bool) {
	t.Helper()
	aheadX, aheadMiles := shown(x), shown(miles)
	tick, ok := due.When(x, miles)
	if tick != want || ok != known {
		t.Errorf("When(%s, %s): %d, %v, not %d, %v", short(aheadX), short(aheadMiles), tick, ok, want, known)
	}
	if shown(x) != aheadX || shown(miles) != aheadMiles {
		t.Errorf("what was handed in, %s, %s, is %s, %s behind it", short(aheadX), short(aheadMiles), short(shown(x)), short(shown(miles)))
	}
}

// unknown asks that x is not known.
func unknown(t *testing.T, x api.Expr, miles ...api.Mile) {
	t.Helper()
	whenTo(t, x, miles, 0, false)
}

// when holds When against the tests' own reckoning, and tells what that is.
func when(t *testing.T, x api.Expr, miles ...api.Mile) (int, bool) {
	t.Helper()
	tick, known := reckoned(x, miles)
	whenTo(t, x, miles, tick, known)
	return tick, known
}

// ofTo holds Of against what the document asks, and that nothing handed in is changed.
func ofTo(t *testing.T, l []api.Rule, r api.Rec, c api.Case, want, act int, known bool) {
	t.Helper()
	ahead := shown(l) + shown(r) + shown(c)
	tick, does, ok := due.Of(l, r, c)
	if tick != want || does != act || ok != known {
		t.Errorf("Of(%s): %d, %d, %v, not %d, %d, %v", short(ahead), tick, does, ok, want, act, known)
	}
	if behind := shown(l) + shown(r) + shown(c); behind != ahead {
		t.Errorf("what was handed in, %s, is %s behind it", short(ahead), short(behind))
	}
}

// ofAll holds Of against the tests' own reckoning, and tells whether that is known.
func ofAll(t *testing.T, l []api.Rule, r api.Rec, c api.Case) bool {
	t.Helper()
	tick, act, known := reckonedOf(l, r, c)
	ofTo(t, l, r, c, tick, act, known)
	return known
}

// milesTo holds Miles against what the document asks, and that nothing handed in is changed.
func milesTo(t *testing.T, r api.Rec, c api.Case, want ...api.Mile) {
	t.Helper()
	ahead := shown(r) + shown(c)
	if l := due.Miles(r, c); !slices.Equal(l, want) {
		t.Errorf("Miles(%s): %v, not %v", short(ahead), l, want)
	}
	if behind := shown(r) + shown(c); behind != ahead {
		t.Errorf("what was handed in, %s, is %s behind it", short(ahead), short(behind))
	}
}

// putTo holds Put against the tests' own reckoning, what is asked by hand, and that nothing handed in is changed.
func putTo(t *testing.T, l []api.Mile, m api.Mile, may bool) {
	t.Helper()
	names := map[string]bool{}
	for _, k := range l {
		names[k.Name] = true
	}
	if may != (len(l) < mostMiles && !names[m.Name]) {
		t.Fatalf("Put(%v, %v) is asked as %v", l, m, may)
	}
	var want []api.Mile
	if may {
		want = slices.Insert([]api.Mile{m}, 0, l...)
	}
	ahead := slices.Clone(l[:cap(l)])
	got, ok := due.Put(l, m)
	if !slices.Equal(got, want) || ok != may {
		t.Errorf("Put(%v, %v): %v, %v, not %v, %v", l, m, got, ok, want, may)
	}
	if !slices.Equal(l[:cap(l)], ahead) {
		t.Errorf("what was handed in, %v, with what stands behind it, is %v behind Put", ahead, l[:cap(l)])
	}
}
