package rule_test

import (
	"fmt"
	"hanaper/api"
	"hanaper/rule"
	"regexp"
	"slices"
	"strconv"
	"strings"
	"testing"
)

// The limits and the kinds, as the document numbers them.
const (
	mostDays  = 1048576
	mostText  = 600
	mostRules = 12
	mostNodes = 24
	mostDepth = 8
	mostName  = 16

	opAfter = 1
	opOr    = 2
	opAnd   = 3

	destroy = 1
	review  = 2
	keep    = 3
)

const nine = "class default keep after or and then destroy review"

var (
	formedWord = regexp.MustCompile(`^[a-z][a-z0-9_-]{0,15}$`)
	formedName = regexp.MustCompile(`^[a-z0-9._-]{1,16}$`)
)

// Conditions and rules as they are written out by hand.

func after(days int, mile string, kids ...api.Expr) api.Expr {
	return api.Expr{Op: opAfter, Days: days, Mile: mile, Kids: kids}
}

func or(kids ...api.Expr) api.Expr  { return api.Expr{Op: opOr, Kids: kids} }
func and(kids ...api.Expr) api.Expr { return api.Expr{Op: opAnd, Kids: kids} }

func of(class string, when api.Expr, act int) api.Rule {
	return api.Rule{Class: class, When: when, Act: act}
}

// times is n conditions, all like x.
func times(n int, x api.Expr) []api.Expr {
	return slices.Repeat([]api.Expr{x}, n)
}

// own is x in memory of its own, with spare room behind its Kids.
func own(x api.Expr) api.Expr {
	kids := make([]api.Expr, 0, len(x.Kids)+2)
	for _, k := range x.Kids {
		kids = append(kids, own(k))
	}
	x.Kids = kids
	return x
}

// ownAll is l in memory of its own, with spare room behind it.
func ownAll(l []api.Rule) []api.Rule {
	all := make([]api.Rule, 0, len(l)+2)
	for _, r := range l {
		all = append(all, of(r.Class, own(r.When), r.Act))
	}
	return all
}

// spots are all the places of x, of what is above ahead of what is below.
func spots(x *api.Expr) []*api.Expr {
	var l []*api.Expr
	var walk func(x *api.Expr)
	walk = func(x *api.Expr) {
		l = append(l, x)
		for i := range x.Kids {
			walk(&x.Kids[i])
		}
	}
	walk(x)
	return l
}

// changed is x, the i'th of its places done something with.
func changed(x api.Expr, i int, do func(k *api.Expr)) api.Expr {
	x = own(x)
	do(spots(&x)[i])
	return x
}

// shown is x as the tests' messages show it, and a text that only conditions that are the same have.
func shown(x api.Expr) string {
	return string(appendShown(nil, x))
}

func appendShown(b []byte, x api.Expr) []byte {
	b = strconv.AppendInt(append(b, '{'), int64(x.Op), 10)
	b = strconv.AppendInt(append(b, ' '), int64(x.Days), 10)
	b = strconv.AppendQuote(append(b, ' '), x.Mile)
	for _, k := range x.Kids {
		b = appendShown(append(b, ' '), k)
	}
	return append(b, '}')
}

// shownAll is l, likewise.
func shownAll(l []api.Rule) string {
	b := []byte("[")
	for _, r := range l {
		b = appendShown(append(strconv.AppendQuote(b, r.Class), ' '), r.When)
		b = append(strconv.AppendInt(append(b, ' '), int64(r.Act), 10), ';')
	}
	return string(append(b, ']'))
}

// short is a text as the tests' messages show it: of a long one only the ends.
func short(s string) string {
	if len(s) > 500 {
		return s[:300] + " .. " + s[len(s)-150:] + fmt.Sprint(", ", len(s), " bytes")
	}
	return s
}

// The tests' own reckoning.

// isWord is whether s is a word, as P17.1 says it.
func isWord(s string) bool {
	return formedWord.MatchString(s) && !slices.Contains(strings.Fields(nine), s)
}

func nodesOf(x api.Expr) int {
	n := 1
	for _, k := range x.Kids {
		n += nodesOf(k)
	}
	return n
}

func depthOf(x api.Expr) int {
	n := 0
	for _, k := range x.Kids {
		n = max(n, depthOf(k))
	}
	return n + 1
}

// isWhole is whether x may be, its size not asked.
func isWhole(x api.Expr) bool {
	if x.Op == opAfter {
		return 0 <= x.Days && x.Days <= mostDays && isWord(x.Mile) && len(x.Kids) == 0
	}
	right := (x.Op == opOr || x.Op == opAnd) && x.Days == 0 && len(x.Mile) == 0 && len(x.Kids) > 1
	for _, k := range x.Kids {
		right = right && isWhole(k)
	}
	return right
}

// isFair is whether x may be.
func isFair(x api.Expr) bool {
	return isWhole(x) && nodesOf(x) <= mostNodes && depthOf(x) <= mostDepth
}

// spanned is the text of days, as P15.2 says it.
func spanned(days int) string {
	for unit, each := range []int{365, 30, 7} {
		if days != 0 && days/each*each == days {
			return fmt.Sprintf("%d%c", days/each, "ymw"[unit])
		}
	}
	return fmt.Sprintf("%dd", days)
}

// phrased is the text of x, which may be and stands in one of the Op outer (0: in none).
func phrased(x api.Expr, outer int) string {
	if x.Op == opAfter {
		return spanned(x.Days) + " after " + x.Mile
	}
	s := phrased(x.Kids[0], x.Op)
	for _, k := range x.Kids[1:] {
		s += []string{opOr: " or ", opAnd: " and "}[x.Op] + phrased(k, x.Op)
	}
	if outer == opAnd || outer == opOr && x.Op == opOr {
		return "(" + s + ")"
	}
	return s
}

// reckoned is what Print is to answer of l, and what Check is, of which ErrLong is no error.
func reckoned(l []api.Rule) (string, api.Errno, api.Errno) {
	if len(l) > mostRules {
		return "", api.ErrMany, api.ErrMany
	}
	wrong, count, s := false, map[string]int{}, ""
	for _, r := range l {
		wrong = wrong || r.Act < destroy || r.Act > keep || r.Class != "" && !formedName.MatchString(r.Class) || !isFair(r.When)
		count[r.Class]++
	}
	if wrong {
		return "", api.ErrArg, api.ErrArg
	}
	if len(count) < len(l) {
		return "", api.ErrThere, api.ErrThere
	}
	for _, r := range l {
		head := "default"
		if r.Class != "" {
			head = "class \"" + r.Class + "\""
		}
		s += head + " keep " + phrased(r.When, 0) + " then " + []string{"", "destroy", "review", "keep"}[r.Act] + ";\n"
	}
	if len(s) > mostText {
		return "", api.ErrLong, api.OK
	}
	return s, api.OK, api.OK
}

// listTo holds Check, Print and Same of l against what the document asks, and that l is not changed.
func listTo(t *testing.T, l []api.Rule, text string, printed, checked api.Errno) {
	t.Helper()
	ahead, other := shownAll(l), ownAll(l)
	if e := rule.Check(l); e != checked {
		t.Errorf("Check(%s): error %d, not %d", short(ahead), e, checked)
	}
	if s, e := rule.Print(l); s != text || e != printed {
		t.Errorf("Print(%s): %q, error %d, not %q, error %d", short(ahead), s, e, text, printed)
	}
	if !rule.Same(l, other) || !rule.Same(other, l) {
		t.Errorf("Same(%s): not the same as itself", short(ahead))
	}
	if behind := shownAll(l); behind != ahead {
		t.Errorf("what was handed in, %s, is %s behind it", short(ahead), short(behind))
	}
}

// right asks that l may be, and its text.
func right(t *testing.T, text string, l ...api.Rule) {
	t.Helper()
	listTo(t, l, text, api.OK, api.OK)
}

// wrong asks an error of l.
func wrong(t *testing.T, err api.Errno, l ...api.Rule) {
	t.Helper()
	listTo(t, l, "", err, err)
}

// all holds l against the tests' own reckoning, and tells Print's error.
func all(t *testing.T, l ...api.Rule) api.Errno {
	t.Helper()
	text, printed, checked := reckoned(l)
	listTo(t, l, text, printed, checked)
	return printed
}

// exprTo holds Expr of x, and Check of rules that have it, against what the document asks.
func exprTo(t *testing.T, x api.Expr, text string, err api.Errno) {
	t.Helper()
	ahead := shown(x)
	if s, e := rule.Expr(x); s != text || e != err {
		t.Errorf("Expr(%s): %q, error %d, not %q, error %d", short(ahead), s, e, text, err)
	}
	good := after(1, "m")
	for _, l := range [][]api.Rule{{of("", x, keep)}, {of("a", x, destroy), of("b", good, review)}, {of("a", good, keep), of("", x, review)}, {of("", good, keep), of("b", x, keep), of("a", good, keep)}} {
		if e := rule.Check(l); e != err {
			t.Errorf("Check(%s): error %d, not %d", short(shownAll(l)), e, err)
		}
	}
	if behind := shown(x); behind != ahead {
		t.Errorf("what was handed in, %s, is %s behind it", short(ahead), short(behind))
	}
}

// fair asks that x may be, and its text.
func fair(t *testing.T, x api.Expr, text string) {
	t.Helper()
	exprTo(t, x, text, api.OK)
}

// unfair asks that x may not be.
func unfair(t *testing.T, x api.Expr) {
	t.Helper()
	exprTo(t, x, "", api.ErrArg)
}

// held holds x against the tests' own reckoning, and tells whether it may be.
func held(t *testing.T, x api.Expr) bool {
	t.Helper()
	if !isFair(x) {
		unfair(t, x)
		return false
	}
	fair(t, x, phrased(x, 0))
	return true
}
