package due_test

import (
	"hanaper/api"
	"hanaper/due"
	"math"
	"slices"
	"strconv"
	"strings"
	"testing"
)

func TestLimits(t *testing.T) {
	if api.MaxDays != mostDays || api.MaxClock != mostClock || api.MaxMiles != mostMiles || api.MaxDepth != mostDepth {
		t.Error("a limit is another one")
	}
	if api.ExAfter != opAfter || api.ExOr != opOr || api.ExAnd != opAnd || api.ActDestroy != destroy || api.ActReview != review || api.ActKeep != keep {
		t.Error("a kind has another number")
	}
}

// P19.1: so many days after a milestone.

func TestExample(t *testing.T) {
	whenTo(t, after(730, "closed"), []api.Mile{at("closed", 10)}, 740, true)
	unknown(t, after(730, "closed"), at("left", 10))
}

func TestAfterByName(t *testing.T) {
	x := after(5, "a")
	whenTo(t, x, nil, 0, false)
	whenTo(t, x, []api.Mile{}, 0, false)
	unknown(t, x, at("b", 1))
	unknown(t, x, at("b", 1), at("c", 2), at("d", 3))
	for i := range 12 { // one of the name, at each place
		l := row(12)
		unknown(t, x, l...)
		l[i].Name = "a"
		whenTo(t, x, l, 10*i+5, true)
	}
	for _, s := range []string{"", "A", "aa", "ab", "ba", "a ", " a", "a\x00", "\x00a", "a.", "b", "ä", "a\xff"} {
		unknown(t, x, at(s, 1))
		unknown(t, after(5, s), at("a", 1))
		whenTo(t, after(5, s), []api.Mile{at("a", 1), at(s, 2)}, 7, true)
		whenTo(t, x, []api.Mile{at(s, 1), at("a", 2), at(s, 3)}, 7, true)
	}
	long := strings.Repeat("m", 1000)
	whenTo(t, after(5, long), []api.Mile{at(long[1:], 1), at(long+"m", 2), at(long[1:]+"n", 3), at(long, 4)}, 9, true)
	whenTo(t, after(5, "ingest"), []api.Mile{at("a", 1), at("ingest", 2)}, 7, true)
	unknown(t, after(5, "ingest"), at("a", 1)) // no milestone is there by itself
}

// The empty name is a name like others.
func TestAfterOfTheEmptyName(t *testing.T) {
	x := after(1, "")
	whenTo(t, x, nil, 0, false)
	unknown(t, x, at("a", 7))
	whenTo(t, x, []api.Mile{at("", 7)}, 8, true)
	whenTo(t, x, []api.Mile{at("a", 5), at("", 7), at("", 6)}, 8, true)
	unknown(t, after(1, "a"), at("", 7))
}

// Of two of the name the first one counts, whatever comes of it.
func TestAfterOfTwoOfTheName(t *testing.T) {
	x := after(5, "a")
	whenTo(t, x, []api.Mile{at("a", 10), at("a", 3)}, 15, true)
	whenTo(t, x, []api.Mile{at("a", 3), at("a", 10)}, 8, true)
	whenTo(t, x, []api.Mile{at("b", 1), at("a", 10), at("b", 2), at("a", 3), at("b", 0), at("a", 20)}, 15, true)
	for _, tick := range []int{-1, math.MinInt, math.MaxInt, mostClock + 1, mostClock, mostClock - 4} {
		unknown(t, x, at("a", tick))
		unknown(t, x, at("a", tick), at("a", 3))
		unknown(t, x, at("b", 1), at("a", tick), at("a", 3), at("a", 4))
		whenTo(t, x, []api.Mile{at("a", 3), at("a", tick)}, 8, true)
	}
}

func TestDaysAndTicksByHand(t *testing.T) {
	for _, c := range []struct {
		tick, days, want int
		known            bool
	}{
		{0, 0, 0, true}, {0, 1, 1, true}, {1, 0, 1, true}, {3, 4, 7, true},
		{0, mostDays, mostDays, true}, {0, mostDays + 1, 0, false}, {7, mostDays, mostDays + 7, true}, {7, mostDays + 1, 0, false},
		{mostClock, 0, mostClock, true}, {mostClock, 1, 0, false}, {mostClock + 1, 0, 0, false}, {mostClock + 1, -1, 0, false},
		{mostClock - 1, 1, mostClock, true}, {mostClock - 1, 2, 0, false}, {mostClock - 730, 730, mostClock, true}, {mostClock - 730, 731, 0, false},
		{mostClock - mostDays, mostDays, mostClock, true}, {mostClock - mostDays + 1, mostDays, 0, false}, {mostClock - mostDays - 1, mostDays + 1, 0, false},
		{-1, 0, 0, false}, {-1, 1, 0, false}, {-1, 2, 0, false}, {0, -1, 0, false}, {1, -1, 0, false}, {5, -1, 0, false}, {-1, -1, 0, false},
		{5, math.MinInt, 0, false}, {5, math.MaxInt, 0, false}, {math.MinInt, 5, 0, false}, {math.MaxInt, 5, 0, false}, {math.MaxInt, 0, 0, false},
		{math.MaxInt, math.MaxInt, 0, false}, {math.MinInt, math.MinInt, 0, false}, {math.MinInt, math.MaxInt, 0, false}, {math.MaxInt, math.MinInt, 0, false},
		{1<<32 + 5, 3, 1<<32 + 8, true}, {5, 1<<32 + 3, 0, false},
	} {
		whenTo(t, after(c.days, "a"), []api.Mile{at("a", c.tick)}, c.want, c.known)
		whenTo(t, or(after(c.days, "a"), after(1, "none")), []api.Mile{at("a", c.tick)}, c.want, c.known)
		whenTo(t, and(after(c.days, "a")), []api.Mile{at("a", c.tick)}, c.want, c.known)
	}
}

func TestDaysAndTicksOfAllEdges(t *testing.T) {
	count := 0
	for _, tick := range edges() {
		for _, days := range edges() {
			if _, known := when(t, after(days, "a"), at("a", tick)); known {
				count++
			}
		}
	}
	if count < 100 {
		t.Errorf("%d are known", count)
	}
}

// P19.1: the earliest, and the latest.

// unmet are conditions that are not known where there is only a milestone a.
func unmet() []api.Expr {
	return []api.Expr{after(1, "none"), after(-1, "a"), after(mostDays+1, "a"), {}, or(), and(), {Op: 4, Kids: []api.Expr{after(1, "a")}}}
}

func TestOfNoKid(t *testing.T) {
	for _, kids := range [][]api.Expr{nil, {}} {
		for _, miles := range [][]api.Mile{nil, {at("", 0)}, {at("a", 10)}} {
			whenTo(t, or(kids...), miles, 0, false)
			whenTo(t, and(kids...), miles, 0, false)
			whenTo(t, api.Expr{Op: opOr, Mile: "a", Kids: kids}, miles, 0, false)
			whenTo(t, api.Expr{Op: opAnd, Mile: "a", Kids: kids}, miles, 0, false)
		}
	}
	a := at("a", 10)
	whenTo(t, or(or(), after(3, "a"), and()), []api.Mile{a}, 13, true)
	unknown(t, and(and(), after(3, "a")), a)
	unknown(t, and(after(3, "a"), or()), a)
	unknown(t, or(and(), or()), a)
}

func TestOfOneKid(t *testing.T) {
	a := []api.Mile{at("a", 10)}
	whenTo(t, or(after(3, "a")), a, 13, true)
	whenTo(t, and(after(3, "a")), a, 13, true)
	whenTo(t, or(and(or(after(3, "a")))), a, 13, true)
	for _, x := range unmet() {
		unknown(t, x, a...)
		unknown(t, or(x), a...)
		unknown(t, and(x), a...)
		unknown(t, and(or(x)), a...)
	}
}

// Of two and more: all known; one that is not known, of each cause, at each place; none known.
func TestOfSeveralKids(t *testing.T) {
	a := []api.Mile{at("a", 10)}
	for n := 2; n <= 30; n++ {
		var kids []api.Expr
		for i := range n {
			kids = append(kids, after(i+1, "a"))
		}
		whenTo(t, or(kids...), a, 11, true)
		whenTo(t, and(kids...), a, 10+n, true)
		for _, x := range unmet() {
			unknown(t, or(times(n, x)...), a...)
			unknown(t, and(times(n, x)...), a...)
			for i := range n {
				l := slices.Clone(kids)
				l[i] = x
				least := 11
				if i == 0 {
					least = 12
				}
				whenTo(t, or(l...), a, least, true)
				unknown(t, and(l...), a...)
				only := times(n, x)
				only[i] = after(5, "a")
				whenTo(t, or(only...), a, 15, true)
				unknown(t, and(only...), a...)
			}
		}
	}
}

// The least and the greatest at each place, ahead of, between and behind others, and all equal.
func TestLeastAndGreatest(t *testing.T) {
	a := []api.Mile{at("a", 0)}
	for n := 2; n <= 12; n++ {
		for i := range n {
			for _, c := range []struct{ others, one int }{{5, 1}, {5, 9}, {5, 0}, {0, 5}, {0, 0}, {5, 5}, {mostDays, 0}, {0, mostDays}} {
				kids := times(n, after(c.others, "a"))
				kids[i] = after(c.one, "a")
				whenTo(t, or(kids...), a, min(c.others, c.one), true)
				whenTo(t, and(kids...), a, max(c.others, c.one), true)
			}
		}
	}
	whenTo(t, or(after(0, "a"), after(0, "z")), []api.Mile{at("a", mostClock), at("z", mostClock)}, mostClock, true)
	whenTo(t, and(after(0, "a"), after(0, "z")), []api.Mile{at("a", mostClock), at("z", 0)}, mostClock, true)
	whenTo(t, or(after(0, "a"), after(0, "z")), []api.Mile{at("a", mostClock), at("z", 0)}, 0, true)
}

// All rows of up to four kids, out of what is not known, 0, and others.
func TestAllRows(t *testing.T) {
	a := []api.Mile{at("a", 0)}
	days := []int{-1, 0, 1, 5, mostDays}
	for n := range 5 {
		rows := int(math.Pow(float64(len(days)), float64(n)))
		for r := range rows {
			var kids []api.Expr
			var known []int
			for i, left := 0, r; i < n; i, left = i+1, left/len(days) {
				d := days[left%len(days)]
				kids = append(kids, after(d, "a"))
				if d >= 0 {
					known = append(known, d)
				}
			}
			if len(known) == 0 {
				unknown(t, or(kids...), a...)
				unknown(t, and(kids...), a...)
				continue
			}
			slices.Sort(known)
			whenTo(t, or(kids...), a, known[0], true)
			if len(known) < n {
				unknown(t, and(kids...), a...)
			} else {
				whenTo(t, and(kids...), a, known[n-1], true)
			}
		}
	}
}

// P19.1: each in the other.

func TestEachInTheOther(t *testing.T) {
	a, b, c, none := after(1, "a"), after(2, "b"), after(3, "c"), after(4, "none")
	l := []api.Mile{at("a", 10), at("b", 20), at("c", 30)} // due at 11, 22, 33
	for _, x := range []struct {
		when  api.Expr
		want  int
		known bool
	}{
		{or(a, and(b, c)), 11, true}, {or(and(b, c), a), 11, true}, {or(c, and(a, b)), 22, true}, {or(and(a, b), c), 22, true},
		{and(a, or(b, c)), 22, true}, {and(c, or(a, b)), 33, true}, {and(or(b, c), or(a, c)), 22, true}, {or(and(a, c), and(b, c)), 33, true},
		{or(and(a, none), c), 33, true}, {or(and(a, none), and(none, b)), 0, false}, {and(or(a, none), or(none, c)), 33, true}, {and(a, or(none, none)), 0, false},
		{or(or(c, b), or(none, a)), 11, true}, {and(and(a, b), and(b, c)), 33, true}, {and(and(a, none), b), 0, false}, {or(or(none), and(none), b), 22, true},
		{or(none, and(a, or(none, and(b, or(none, c))))), 33, true}, {and(a, or(none, and(b, or(none, and(c, none))))), 0, false},
		{or(and(a, or(none, and(b, or(none, and(c, none))))), c), 33, true},
	} {
		whenTo(t, x.when, l, x.want, x.known)
		when(t, x.when, l...)
	}
}

// comb is a condition so deep, its Ops or and and in turn from the deepest on, each with one of others ahead of what is below it, or behind that.
func comb(depth int, ahead bool, deepest api.Expr, others ...api.Expr) api.Expr {
	x := deepest
	for i := range depth - 1 {
		kids := []api.Expr{others[i%len(others)], x}
		if !ahead {
			slices.Reverse(kids)
		}
		x = api.Expr{Op: opOr + i%2, Kids: kids}
	}
	return x
}

// Chains of one kid each, and combs, up to MaxDepth and far deeper.
func TestDepths(t *testing.T) {
	l := []api.Mile{at("a", 10), at("b", 20)}
	a, b, none := after(1, "a"), after(2, "b"), after(4, "none")
	for _, depth := range []int{2, 3, 4, 5, 6, mostDepth - 1, mostDepth, mostDepth + 1, mostDepth + 2, 20, 25, 300} {
		for _, ops := range [][]int{{opOr}, {opAnd}, {opOr, opAnd}} {
			x, y := b, none
			for i := range depth - 1 {
				x = api.Expr{Op: ops[i%len(ops)], Kids: []api.Expr{x}}
				y = api.Expr{Op: ops[i%len(ops)], Kids: []api.Expr{y}}
			}
			whenTo(t, x, l, 22, true)
			unknown(t, y, l...)
		}
		for _, ahead := range []bool{true, false} {
			for _, deepest := range []api.Expr{a, b, none} {
				for _, other := range []api.Expr{a, b, none} {
					when(t, comb(depth, ahead, deepest, other), l...)
					when(t, comb(depth, ahead, deepest, other, a), l...)
				}
			}
			// What is deepest is told all the way up.
			whenTo(t, comb(depth, ahead, b, none, a), l, 22, true)
			whenTo(t, comb(depth, ahead, a, b, after(0, "a")), l, 11, true)
			unknown(t, comb(depth, ahead, none, none, a), l...)
		}
	}
	whenTo(t, comb(2, true, a, b), l, 11, true)
	whenTo(t, comb(3, true, a, b), l, 22, true)
	whenTo(t, comb(4, false, none, b), l, 22, true)
	whenTo(t, comb(5, true, none, a), l, 11, true)
}

// As many parts, one in another, as the document's bound has, and as wide ones; they are asked alone, as it takes long to show them.
func TestVast(t *testing.T) {
	l := []api.Mile{at("a", 10), at("b", 20)}
	for _, x := range []struct {
		when  api.Expr
		want  int
		known bool
	}{
		{comb(1<<16, true, after(2, "b"), after(3, "none"), after(1, "a")), 22, true},
		{comb(1<<16, false, after(1, "a"), after(2, "b"), after(0, "a")), 11, true},
		{comb(1<<16-1, true, after(3, "none"), after(3, "none"), after(1, "a")), 0, false},
		{comb(1<<16-1, false, after(3, "none"), after(1, "a")), 11, true},
		{or(append(times(300000, after(2, "b")), after(1, "a"))...), 11, true},
		{and(append(times(300000, after(2, "b")), after(1, "a"))...), 22, true},
		{and(append(times(300000, after(2, "b")), after(1, "none"))...), 0, false},
		{or(append(times(300000, after(2, "none")), after(1, "a"))...), 11, true},
	} {
		if tick, known := due.When(x.when, l); tick != x.want || known != x.known {
			t.Errorf("%d, %v, not %d, %v", tick, known, x.want, x.known)
		}
	}
	many := row(300000)
	if tick, known := due.When(after(1, "m299999"), many); tick != 2999991 || !known {
		t.Errorf("%d, %v", tick, known)
	}
}

// shapes are all conditions with so many leaves, out of these; none has a lone kid.
func shapes(leaves int, of []api.Expr) []api.Expr {
	if leaves == 1 {
		return of
	}
	var l []api.Expr
	var put func(kids []api.Expr, left int)
	put = func(kids []api.Expr, left int) {
		if left == 0 {
			l = append(l, or(kids...), and(kids...))
			return
		}
		for n := 1; n <= min(left, leaves-1); n++ {
			for _, k := range shapes(n, of) {
				put(append(kids[:len(kids):len(kids)], k), left-n)
			}
		}
	}
	put(nil, leaves)
	return l
}

// All small conditions, of what is due early, late, and not known.
func TestAllSmallConditions(t *testing.T) {
	l := []api.Mile{at("a", 0), at("b", 4), at("b", 1)}
	of := []api.Expr{after(0, "a"), after(3, "b"), after(7, "none")}
	count := map[bool]int{}
	for leaves := 1; leaves <= 4; leaves++ {
		for _, x := range shapes(leaves, of) {
			_, known := when(t, x, l...)
			count[known]++
		}
	}
	if count[true] < 1000 || count[false] < 1000 {
		t.Errorf("known and not: %v", count)
	}
}

// P19.1: other Ops are not known, whatever they have.
func TestOtherOps(t *testing.T) {
	a, b := after(1, "a"), after(2, "b")
	l := []api.Mile{at("a", 10), at("b", 20), at("", 30)}
	for _, op := range strange() {
		for _, x := range []api.Expr{
			{Op: op}, {Op: op, Mile: "a"}, {Op: op, Days: 1, Mile: "a"}, {Op: op, Days: 1}, {Op: op, Kids: []api.Expr{}},
			{Op: op, Kids: []api.Expr{a}}, {Op: op, Kids: []api.Expr{a, b}}, {Op: op, Days: 1, Mile: "a", Kids: []api.Expr{a, b}}, {Op: op, Kids: []api.Expr{or(a, b), and(a, b)}},
		} {
			unknown(t, x, l...)
			unknown(t, x)
			unknown(t, or(x), l...)
			unknown(t, or(x, x), l...)
			unknown(t, and(x, a), l...)
			unknown(t, and(b, x, a), l...)
			whenTo(t, or(x, b), l, 22, true)
			whenTo(t, or(b, x, a), l, 11, true)
			whenTo(t, and(b, or(x, a)), l, 22, true)
			whenTo(t, or(and(a, x), b), l, 22, true)
		}
	}
}

// P19.1: conditions that may not be; of each Op only that counts which P19.1 names.
func TestConditionsThatMayNotBe(t *testing.T) {
	a, b, none := after(1, "a"), after(2, "b"), after(3, "none")
	l := []api.Mile{at("a", 10), at("b", 20)}
	for _, kids := range [][]api.Expr{{}, {a}, {none}, {a, b}, {or(a, b)}, {{}, {}, {}}, times(40, b)} {
		whenTo(t, after(3, "a", kids...), l, 13, true)
		whenTo(t, or(b, after(3, "a", kids...)), l, 13, true)
		whenTo(t, and(b, after(3, "a", kids...)), l, 22, true)
		unknown(t, after(3, "none", kids...), l...)
		unknown(t, after(-1, "a", kids...), l...)
	}
	for _, days := range []int{0, 1, -1, mostDays, mostDays + 1, math.MinInt, math.MaxInt} {
		for _, mile := range []string{"", "a", "b", "none", "A b"} {
			whenTo(t, api.Expr{Op: opOr, Days: days, Mile: mile, Kids: []api.Expr{b, a}}, l, 11, true)
			whenTo(t, api.Expr{Op: opAnd, Days: days, Mile: mile, Kids: []api.Expr{b, a}}, l, 22, true)
			unknown(t, api.Expr{Op: opOr, Days: days, Mile: mile, Kids: []api.Expr{none, none}}, l...)
			unknown(t, api.Expr{Op: opAnd, Days: days, Mile: mile, Kids: []api.Expr{a, none}}, l...)
			unknown(t, api.Expr{Op: opOr, Days: days, Mile: mile}, l...)
			unknown(t, api.Expr{Op: opAnd, Days: days, Mile: mile}, l...)
		}
	}
	// Words of the schedule's, and what is no word, as milestones' names.
	for _, s := range []string{"or", "default", "A", "a b", "2y", "seventeen-letters", "\xff", strings.Repeat("x", 300)} {
		whenTo(t, after(1, s), []api.Mile{at(s, 5)}, 6, true)
		unknown(t, after(1, s), l...)
	}
}

// One list of Kids at several places, whole and in pieces.
func TestKidsThatAreShared(t *testing.T) {
	kids := []api.Expr{after(1, "a"), after(2, "b"), after(3, "none")}
	l := []api.Mile{at("a", 10), at("b", 20)}
	whenTo(t, and(or(kids...), and(kids[:2]...), or(kids[1:]...)), l, 22, true)
	whenTo(t, or(and(kids...), or(kids[2:]...), and(kids[:1]...)), l, 11, true)
}

// Rule 4: the same is answered again, whatever was asked between.
func TestAgain(t *testing.T) {
	a, b := at("a", 10), at("b", 20)
	x := or(and(after(1, "a"), after(2, "b")), after(30, "a"))
	for i := range 3 {
		whenTo(t, x, []api.Mile{a, b}, 22, true)
		whenTo(t, x, []api.Mile{a}, 40, true)
		unknown(t, x, b)
		unknown(t, x)
		ofTo(t, []api.Rule{of("", x, review)}, rec("q", 5), caseOf(a, b), 22, review, true)
		ofTo(t, []api.Rule{of("", x, review)}, rec("q", 5), caseOf(b), 0, 0, false)
		milesTo(t, rec("q", i), caseOf(a), at("ingest", i), a)
		putTo(t, []api.Mile{a}, at("b"+strconv.Itoa(i), 1), true)
		putTo(t, []api.Mile{a}, a, false)
	}
}
