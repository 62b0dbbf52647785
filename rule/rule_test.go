package rule_test

import (
	"hanaper/api"
	"hanaper/rule"
	"math"
	"slices"
	"strconv"
	"strings"
	"testing"
)

const (
	letters = "abcdefghijklmnopqrstuvwxyz"
	inWord  = letters + "0123456789-_"
	inName  = inWord + "."
)

// strange are ints about the least, the greatest and what would wrap round to a kind.
func strange() []int {
	return []int{math.MinInt, math.MinInt + 1, math.MinInt32, -257, -256, -255, -4, -3, -2, -1, 0, 4, 5, 6, 7, 8, 9, 255, 256, 257, 258, 259, 1<<16 + 1, 1<<32 + 1, 1<<32 + 2, 1<<32 + 3, math.MaxInt - 1, math.MaxInt}
}

// few are conditions that may not be, each for another cause.
func few() []api.Expr {
	a := after(1, "a")
	return []api.Expr{
		{}, {Op: 4, Days: 1, Mile: "a"}, {Op: -1}, {Op: 4, Kids: times(2, a)},
		after(-1, "a"), after(mostDays+1, "a"), after(1, ""), after(1, "or"), after(1, "2a"), after(1, strings.Repeat("a", mostName+1)), after(1, "a", a), after(1, "a", a, a),
		or(), and(), or(a), and(a), {Op: opOr, Days: 1, Kids: times(2, a)}, {Op: opAnd, Mile: "a", Kids: times(2, a)},
	}
}

// comb is a condition so deep, of which each part but the deepest one has a leaf ahead of the next, or behind it.
func comb(op func(...api.Expr) api.Expr, depth int, ahead bool) api.Expr {
	x := after(1, "a")
	for range depth - 1 {
		if ahead {
			x = op(after(1, "a"), x)
		} else {
			x = op(x, after(1, "a"))
		}
	}
	return x
}

// bush is a condition of which all leaves are so deep.
func bush(op func(...api.Expr) api.Expr, depth int) api.Expr {
	if depth == 1 {
		return after(1, "a")
	}
	return op(bush(op, depth-1), bush(op, depth-1))
}

// P17.1: conditions.

func TestLimits(t *testing.T) {
	if api.MaxDays != mostDays || api.MaxText != mostText || api.MaxRules != mostRules || api.MaxNodes != mostNodes || api.MaxDepth != mostDepth || api.MaxName != mostName {
		t.Error("a limit is another one")
	}
	if api.ExAfter != opAfter || api.ExOr != opOr || api.ExAnd != opAnd || api.ActDestroy != destroy || api.ActReview != review || api.ActKeep != keep {
		t.Error("a kind has another number")
	}
}

func TestOps(t *testing.T) {
	a := after(1, "a")
	fair(t, a, "1d after a")
	fair(t, or(a, a), "1d after a or 1d after a")
	fair(t, and(a, a), "1d after a and 1d after a")
	for _, op := range strange() {
		unfair(t, api.Expr{Op: op})
		unfair(t, api.Expr{Op: op, Days: 1, Mile: "a"})
		unfair(t, api.Expr{Op: op, Kids: times(2, a)})
		unfair(t, api.Expr{Op: op, Days: 1, Mile: "a", Kids: times(2, a)})
		unfair(t, or(a, api.Expr{Op: op, Days: 1, Mile: "a"}))
		unfair(t, and(api.Expr{Op: op, Kids: times(2, a)}, a))
	}
	unfair(t, api.Expr{Op: opAfter, Kids: times(2, a)})
	unfair(t, api.Expr{Op: opOr, Days: 1, Mile: "a"})
	unfair(t, api.Expr{Op: opAnd, Days: 1, Mile: "a"})
	for _, x := range few() {
		unfair(t, x)
	}
}

func TestDays(t *testing.T) {
	for days, text := range map[int]string{0: "0d", 1: "1d", 2: "2d", mostDays - 1: "1048575d", mostDays: "1048576d"} {
		fair(t, after(days, "m"), text+" after m")
	}
	for _, days := range []int{-1, -2, -7, -30, -365, -mostDays, mostDays + 1, mostDays + 2, 2 * mostDays, 365 * mostDays, 1 << 32, 1<<32 + 1, math.MinInt, math.MinInt + 1, math.MaxInt - 1, math.MaxInt} {
		unfair(t, after(days, "m"))
		unfair(t, or(after(1, "m"), after(days, "m")))
		unfair(t, and(after(days, "m"), after(1, "m")))
	}
}

func TestAfterWithKids(t *testing.T) {
	a := after(1, "a")
	fair(t, api.Expr{Op: opAfter, Days: 1, Mile: "a", Kids: nil}, "1d after a")
	fair(t, api.Expr{Op: opAfter, Days: 1, Mile: "a", Kids: []api.Expr{}}, "1d after a")
	fair(t, api.Expr{Op: opAfter, Days: 1, Mile: "a", Kids: make([]api.Expr, 0, 3)}, "1d after a")
	for _, n := range []int{1, 2, 3, 22, 23, 24, 1000} {
		unfair(t, after(1, "a", times(n, a)...))
		unfair(t, after(0, "a", times(n, api.Expr{})...))
		unfair(t, or(a, after(1, "a", times(n, a)...)))
	}
	unfair(t, after(0, "", a, a))
}

// mile holds a text as a milestone's name.
func mile(t *testing.T, s string, may bool) {
	t.Helper()
	if rule.Word(s) != may {
		t.Errorf("Word(%q): %v", s, !may)
	}
	if !may {
		unfair(t, after(1, s))
		unfair(t, or(after(1, "a"), after(1, s)))
		return
	}
	fair(t, after(1, s), "1d after "+s)
	fair(t, and(after(1, s), after(1, "a")), "1d after "+s+" and 1d after a")
}

func TestMilesOfAllLengths(t *testing.T) {
	mile(t, "", false)
	for _, c := range inWord {
		for n := 1; n <= 40; n++ {
			mile(t, "a"+strings.Repeat(string(c), n-1), n <= mostName)
			mile(t, strings.Repeat("m", n-1)+string(c), n <= mostName && (n > 1 || strings.ContainsRune(letters, c)))
		}
	}
	for _, n := range []int{255, 256, 257, 272, 600, 1 << 16, 1<<16 + 1, 1<<16 + 16, 1 << 20} {
		mile(t, strings.Repeat("a", n), false)
	}
	for _, s := range []string{"ingest", "closed", "left", "a-b_c-1", "z", "x0", "q__", "y--", "sixteen-letters_", "d", "w", "m", "y"} {
		mile(t, s, true)
	}
	for _, s := range []string{" ", "a b", " a", "a ", "\na", "a\n", "a.", "a.b", ".a", "-a", "_a", "0a", "1", "2y", "A", "aB", "Keep", "a;", "(a", "a)", "a#", "\"a\"", "a\x00", "\x00", "\xff", "a\xff", "\u00e4", "a\u00e4", "a,b", "a/b", "a:b"} {
		mile(t, s, false)
	}
}

// Each byte, alone, at the first place, at all later ones.
func TestMilesOfEachByte(t *testing.T) {
	for n := range 256 {
		c := string([]byte{byte(n)})
		first, later := strings.Contains(letters, c), strings.Contains(inWord, c)
		mile(t, c, first)
		mile(t, c+"b", first)
		mile(t, c+"1", first)
		mile(t, c+strings.Repeat("a", mostName-1), first)
		mile(t, c+strings.Repeat("a", mostName), false)
		for i := 1; i < mostName; i++ {
			mile(t, strings.Repeat("a", i)+c, later)
			mile(t, strings.Repeat("a", i)+c+strings.Repeat("b", mostName-1-i), later)
			mile(t, strings.Repeat("a", i)+c+strings.Repeat("b", mostName-i), false)
		}
	}
}

// The nine words, and each of these with a byte more, less, and another one.
func TestMilesThatAreWords(t *testing.T) {
	words := strings.Fields(nine)
	if len(words) != 9 {
		t.Fatalf("%d words", len(words))
	}
	count := 0
	near := func(s string) {
		mile(t, s, isWord(s))
		if isWord(s) {
			count++
		}
	}
	for _, w := range words {
		mile(t, w, false)
		mile(t, w+"s", true)
		mile(t, "x"+w, true)
		mile(t, w+w, true)
		mile(t, w+"-", true)
		mile(t, w+"_"+w, true)
		mile(t, w[1:], true)
		mile(t, w[:len(w)-1], true)
		mile(t, strings.ToUpper(w), false)
		mile(t, strings.ToUpper(w[:1])+w[1:], false)
		mile(t, " "+w, false)
		mile(t, w+" ", false)
		mile(t, w+".", false)
		for i := range len(w) + 1 {
			for n := range 256 {
				c := string([]byte{byte(n)})
				near(w[:i] + c + w[i:])
				if i < len(w) {
					near(w[:i] + c + w[i+1:])
				}
			}
			if i < len(w) {
				near(w[:i] + w[i+1:])
			}
		}
	}
	if count < 3000 {
		t.Errorf("%d words", count)
	}
}

func TestKids(t *testing.T) {
	a := after(1, "a")
	for _, op := range []int{opOr, opAnd} {
		between := []string{opOr: " or ", opAnd: " and "}[op]
		unfair(t, api.Expr{Op: op, Kids: nil})
		unfair(t, api.Expr{Op: op, Kids: []api.Expr{}})
		for n := range 40 {
			x := api.Expr{Op: op, Kids: times(n, a)}
			if n < 2 || n > mostNodes-1 {
				unfair(t, x)
			} else {
				fair(t, x, strings.Repeat("1d after a"+between, n-1)+"1d after a")
			}
			unfair(t, api.Expr{Op: op, Kids: times(n, api.Expr{})})
			for _, days := range []int{1, -1, 2, mostDays, mostDays + 1, -mostDays, 1 << 32, math.MinInt, math.MaxInt} {
				unfair(t, api.Expr{Op: op, Days: days, Kids: times(n, a)})
				unfair(t, and(a, api.Expr{Op: op, Days: days, Kids: times(n, a)}))
			}
			for _, m := range []string{"a", "z", "ingest", "or", "and", " ", "0", "\x00", "A", strings.Repeat("a", 17)} {
				unfair(t, api.Expr{Op: op, Mile: m, Kids: times(n, a)})
				unfair(t, or(api.Expr{Op: op, Mile: m, Kids: times(n, a)}, a))
				unfair(t, api.Expr{Op: op, Days: 1, Mile: m, Kids: times(n, a)})
			}
		}
		for _, n := range []int{255, 256, 257, 258, 1000, 1 << 16, 1<<16 + 2} {
			unfair(t, api.Expr{Op: op, Kids: times(n, a)})
		}
	}
}

// A kid that may not be, at each place and at each depth.
func TestKidsThatMayNotBe(t *testing.T) {
	a, b := after(1, "a"), after(2, "b")
	for _, x := range []api.Expr{
		a, or(a, b), and(a, b), or(a, b, a, b), and(a, b, a, b), or(and(a, b), or(a, b)), and(and(a, b), b, or(a, b, a)),
		comb(or, mostDepth, true), comb(and, mostDepth, false), bush(or, 4), bush(and, 3), or(times(23, a)...), and(times(7, or(a, b))...),
	} {
		if !held(t, x) {
			t.Errorf("%s is to be one that may be", shown(x))
		}
		for i := range spots(&x) {
			for _, bad := range few() {
				unfair(t, changed(x, i, func(k *api.Expr) { *k = bad }))
			}
			held(t, changed(x, i, func(k *api.Expr) { k.Days-- }))
			held(t, changed(x, i, func(k *api.Expr) { k.Days++ }))
			held(t, changed(x, i, func(k *api.Expr) { k.Mile += "b" }))
			held(t, changed(x, i, func(k *api.Expr) { k.Op++ }))
			held(t, changed(x, i, func(k *api.Expr) { k.Op-- }))
			unfair(t, changed(x, i, func(k *api.Expr) { k.Op, k.Days, k.Mile = 7-k.Op, 0, "" }))
			unfair(t, changed(x, i, func(k *api.Expr) { k.Mile += "B" }))
			unfair(t, changed(x, i, func(k *api.Expr) { k.Days = -1 }))
		}
	}
}

// Nodes.

func TestNodes(t *testing.T) {
	for _, op := range []func(...api.Expr) api.Expr{or, and} {
		for depth := 2; depth <= mostDepth; depth++ {
			for _, ahead := range []bool{true, false} {
				x := comb(op, depth, ahead)
				for i, k := range spots(&x) {
					if k.Op == opAfter {
						continue
					}
					for n := nodesOf(x); n < 2*mostNodes; n++ { // all of what is to come stands in one place
						more := times(n-nodesOf(x), after(1, "a"))
						y := changed(x, i, func(k *api.Expr) { k.Kids = append(k.Kids, more...) })
						if held(t, y) != (n <= mostNodes) || nodesOf(y) != n {
							t.Errorf("%s has %d nodes", shown(y), nodesOf(y))
						}
					}
				}
			}
		}
		unfair(t, bush(op, 5)) // 31 nodes
		unfair(t, bush(op, 8))
		unfair(t, bush(op, 12))
		a := after(1, "a")
		three := op(a, a)
		if !held(t, op(append(times(7, three), a, a)...)) || held(t, op(times(8, three)...)) || held(t, op(append(times(7, three), a, a, a)...)) { // 24, 25 and 25
			t.Error("broad ones of threes")
		}
	}
	two := or(after(1, "a"), after(1, "b"))
	if !held(t, and(append(times(7, two), after(1, "c"), after(1, "d"))...)) || held(t, and(times(8, two)...)) {
		t.Error("broad ones of two kinds")
	}
}

// Depth: none of these has too many nodes.
func TestDepth(t *testing.T) {
	for _, op := range []func(...api.Expr) api.Expr{or, and} {
		for depth := 1; depth <= 12; depth++ {
			for _, ahead := range []bool{true, false} {
				x := comb(op, depth, ahead)
				if nodesOf(x) > mostNodes || depthOf(x) != depth {
					t.Fatalf("%s: %d nodes, %d deep", shown(x), nodesOf(x), depthOf(x))
				}
				if held(t, x) != (depth <= mostDepth) {
					t.Errorf("%s: the tests' own reckoning is wrong", shown(x))
				}
			}
		}
	}
	x := after(1, "a")
	for depth := 2; depth <= 12; depth++ { // of both kinds, each in the other
		if depth%2 == 0 {
			x = or(x, after(2, "b"))
		} else {
			x = and(after(2, "b"), x)
		}
		held(t, x)
	}
	// One leaf alone stands too deep, wherever.
	deep := comb(and, mostDepth, false)
	for i, k := range spots(&deep) {
		if y := changed(deep, i, func(k *api.Expr) { *k = or(after(1, "a"), after(2, "b")) }); k.Op == opAfter {
			held(t, y)
		}
	}
}

// Conditions beyond all limits: they are told at once, with no panic.
func TestVastConditions(t *testing.T) {
	deep := comb(or, 1<<15, false)
	chain := after(1, "a")
	for range 1 << 15 {
		chain = and(chain)
	}
	broad := or(times(1<<20, after(1, "a"))...)
	woven := after(1, "a")
	for range 60 {
		woven = or(woven, woven)
	}
	for _, x := range []api.Expr{deep, chain, broad, woven, or(deep, deep), and(after(1, "a"), broad)} {
		if s, e := rule.Expr(x); s != "" || e != api.ErrArg {
			t.Errorf("Expr: %d bytes, error %d", len(s), e)
		}
		l := []api.Rule{of("", x, destroy)}
		if s, e := rule.Print(l); s != "" || e != api.ErrArg || rule.Check(l) != api.ErrArg {
			t.Errorf("Print: %d bytes, error %d", len(s), e)
		}
	}
	for _, x := range []api.Expr{deep, chain, broad} {
		l := []api.Rule{of("", x, destroy)}
		r, ok := rule.Find(l, "hr")
		if !ok || !rule.Same([]api.Rule{r}, l) {
			t.Error("Find of a vast condition")
		}
		*spots(&r.When)[nodesOf(x)-1] = after(1, "b")
		if rule.Same([]api.Rule{r}, l) || rule.Same(l, []api.Rule{r}) {
			t.Error("the last part is another one")
		}
	}
}

// P17.1: lists.

// plain are n rules that may be, each of another class.
func plain(n int) []api.Rule {
	var l []api.Rule
	for i := range n {
		l = append(l, of("c"+strconv.Itoa(i), after(i, "m"), 1+i%3))
	}
	return l
}

func TestNoRules(t *testing.T) {
	right(t, "")
	right(t, "", []api.Rule{}...)
	if rule.Check(nil) != api.OK || rule.Check([]api.Rule{}) != api.OK || rule.Check(make([]api.Rule, 0, 5)) != api.OK {
		t.Error("Check of no rules")
	}
}

func TestHowManyRules(t *testing.T) {
	for n := range 40 {
		if e := all(t, plain(n)...); n <= mostRules && e != api.OK || n > mostRules && e != api.ErrMany {
			t.Errorf("%d rules: error %d", n, e)
		}
	}
	for _, n := range []int{13, 255, 256, 257, 268, 1 << 16, 1<<16 + 12} {
		wrong(t, api.ErrMany, plain(n)...)
		wrong(t, api.ErrMany, make([]api.Rule, n)...)
		wrong(t, api.ErrMany, slices.Repeat(plain(1), n)...)
	}
}

func TestActs(t *testing.T) {
	a := after(1, "a")
	for _, class := range []string{"", "hr"} {
		for act := destroy; act <= keep; act++ {
			if all(t, of(class, a, act)) != api.OK {
				t.Errorf("the act %d", act)
			}
		}
		for _, act := range strange() {
			wrong(t, api.ErrArg, of(class, a, act))
			wrong(t, api.ErrArg, of(class, a, act), of("x", a, keep))
			wrong(t, api.ErrArg, of("x", a, keep), of(class, a, act))
		}
	}
}

// class holds a text as a rule's Class.
func class(t *testing.T, s string, may bool) {
	t.Helper()
	a := after(1, "a")
	if !may {
		wrong(t, api.ErrArg, of(s, a, keep))
		wrong(t, api.ErrArg, of("k", a, keep), of(s, a, keep), of("", a, keep))
		return
	}
	right(t, "class \""+s+"\" keep 1d after a then keep;\n", of(s, a, keep))
	right(t, "default keep 1d after a then keep;\nclass \""+s+"\" keep 1d after a then review;\n", of("", a, keep), of(s, a, review))
}

func TestClasses(t *testing.T) {
	right(t, "default keep 1d after a then keep;\n", of("", after(1, "a"), keep))
	for n := 1; n <= 40; n++ {
		for _, c := range inName {
			class(t, strings.Repeat(string(c), n), n <= mostName)
		}
	}
	for _, s := range append(strings.Fields(nine), "0", ".", "-", "_", "..", "2y", "1.a-b_c", "default", "ingest", "default.keep") {
		class(t, s, true)
	}
	for _, s := range []string{" ", "a b", " a", "a ", "\n", "a\n", "A", "Hr", "a\"", "\"", "\"a\"", "a;", "a#b", "(a)", "\x00", "a\x00", "\xff", "\u00e4", strings.Repeat("a", 256), strings.Repeat("a", 272), strings.Repeat("a", 1<<16+1)} {
		class(t, s, false)
	}
	for n := range 256 {
		c := string([]byte{byte(n)})
		for _, s := range []string{c, c + "a", "a" + c, "a" + c + "b", c + strings.Repeat("a", mostName-1), strings.Repeat("a", mostName-1) + c} {
			class(t, s, strings.Contains(inName, c))
		}
	}
}

func TestTwoOfOneClass(t *testing.T) {
	a, b := after(1, "a"), after(2, "b")
	for _, c := range []string{"", "hr", ".", "a", "sixteen.letters_"} {
		wrong(t, api.ErrThere, of(c, a, keep), of(c, a, keep))
		wrong(t, api.ErrThere, of(c, a, keep), of(c, b, destroy))
		wrong(t, api.ErrThere, of(c, a, keep), of("x", a, keep), of(c, b, keep))
		wrong(t, api.ErrThere, of(c, a, keep), of(c, a, keep), of(c, a, keep))
		for n := 2; n <= mostRules; n++ {
			for i := range n {
				for j := range i {
					l := plain(n)
					l[i].Class, l[j].Class = c, c
					wrong(t, api.ErrThere, l...)
				}
			}
		}
	}
	// Classes that are nearly alike.
	for _, l := range [][]api.Rule{
		{of("a", a, keep), of("a.", a, keep)}, {of("a", a, keep), of("", a, keep)}, {of("ab", a, keep), of("ba", a, keep)}, {of("a", a, keep), of("aa", a, keep), of("aaa", a, keep)},
		{of("a-", a, keep), of("a_", a, keep), of("a.", a, keep)}, {of("0", a, keep), of("00", a, keep)}, {of("", a, keep), of("default", a, keep)},
	} {
		if all(t, l...) != api.OK {
			t.Errorf("%s may be", shownAll(l))
		}
	}
}

// All sets of faults, at all places: each fault comes ahead of those that stand above it here.
func TestSeveralWrongAtOnce(t *testing.T) {
	faults := []struct {
		err api.Errno
		do  func(l []api.Rule, i int) []api.Rule
	}{
		{api.ErrLong, func(l []api.Rule, i int) []api.Rule { l[i].When = or(times(23, after(1, "m"))...); return l }}, // with the others' lines
		{api.ErrThere, func(l []api.Rule, i int) []api.Rule { l[i].Class = l[(i+1)%len(l)].Class; return l }},
		{api.ErrArg, func(l []api.Rule, i int) []api.Rule { l[i].When = few()[i]; return l }},
		{api.ErrArg, func(l []api.Rule, i int) []api.Rule { l[i].Class = "A"; return l }},
		{api.ErrArg, func(l []api.Rule, i int) []api.Rule { l[i].Act = 4 * (i % 2); return l }},
		{api.ErrMany, func(l []api.Rule, i int) []api.Rule { return append(l, plain(mostRules + 1)[mostRules]) }},
	}
	seen := map[api.Errno]int{}
	for set := range 1 << len(faults) {
		for place := range mostRules {
			for step := range 4 { // by 0: all in one rule
				l, want, at := plain(mostRules), api.OK, place
				for i, f := range faults {
					if set>>i&1 == 1 {
						l, want, at = f.do(l, at), f.err, (at+3*step)%mostRules
					}
				}
				if e := all(t, l...); e != want {
					t.Errorf("faults %b from %d on: error %d, not %d", set, place, e, want)
				}
				seen[want]++
			}
		}
	}
	if len(seen) != 5 {
		t.Errorf("errors, and how often: %v", seen)
	}
}

// The least pairs of faults, in one rule and in two, in each order.
func TestPairsOfFaults(t *testing.T) {
	a, bad := after(1, "a"), after(-1, "a")
	x, y, z := of("b", a, 0), of("B", a, keep), of("b", bad, keep)
	for _, l := range [][]api.Rule{{x, y}, {y, z}, {x, z}, {x, y, z}, {of("b", a, keep), of("b", a, 0)}, {of("b", a, keep), of("b", bad, keep)}, {of("B", a, keep), of("B", a, keep)}, {of("b", bad, 0)}, {of("B", bad, 0)}, {of("B", a, 0)}, {of("", bad, 0), of("", a, keep)}} {
		wrong(t, api.ErrArg, l...)
		slices.Reverse(l)
		wrong(t, api.ErrArg, l...)
		l = append(l, plain(mostRules+1-len(l))...)
		wrong(t, api.ErrMany, l...)
		slices.Reverse(l)
		wrong(t, api.ErrMany, l...)
		wrong(t, api.ErrArg, l[1:]...)
	}
	wrong(t, api.ErrArg, of("b", a, keep), of("b", a, keep), of("c", a, 4))
	wrong(t, api.ErrArg, of("c", a, 4), of("b", a, keep), of("b", a, keep))
	wrong(t, api.ErrArg, of("b", a, keep), of("c", bad, keep), of("b", a, keep))
	long := of("b", or(times(23, after(mostDays, "sixteen-letters_"))...), keep)
	listTo(t, []api.Rule{long}, "", api.ErrLong, api.OK)
	wrong(t, api.ErrThere, long, long)
	wrong(t, api.ErrArg, long, x)
	wrong(t, api.ErrArg, long, long, y)
	wrong(t, api.ErrMany, slices.Repeat([]api.Rule{long}, mostRules+1)...)
}
