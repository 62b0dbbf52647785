package parse_test

import (
	"hanaper/api"
	"hanaper/parse"
	"hanaper/rule"
	"math"
	"math/rand"
	"slices"
	"strconv"
	"strings"
	"testing"
)

// pick is one of l.
func pick[T any](d *rand.Rand, l ...T) T {
	return l[d.Intn(len(l))]
}

// thrownOut is a text of n bytes, out of some.
func thrownOut(d *rand.Rand, n int, signs string) string {
	b := make([]byte, n)
	for i := range b {
		b[i] = signs[d.Intn(len(signs))]
	}
	return string(b)
}

const (
	small  = "abcdefghijklmnopqrstuvwxyz"
	inWord = small + "0123456789-_"
)

// thrownMile is a milestone's name, mostly one of few.
func thrownMile(d *rand.Rand) string {
	s := pick(d, "a", "b", "closed", "x", "orr", "an", "and-or", "d")
	for d.Intn(8) == 0 || wordOf(s) != mile {
		s = thrownOut(d, 1, small) + thrownOut(d, d.Intn(16), inWord)
	}
	return s
}

// thrownClass is a class, mostly one of few; empty, if it is to be default.
func thrownClass(d *rand.Rand) string {
	if d.Intn(5) > 0 {
		return pick(d, "", "a", "b", "hr", "a.b", "c", "d", "e-1", "default", "keep")
	}
	return thrownOut(d, 1+d.Intn(16), inWord+".")
}

// thrownFact is a fact's tokens, and what they tell.
func thrownFact(d *rand.Rand) ([]string, api.Expr) {
	unit := d.Intn(4)
	days := []int{1, 7, 30, 365}[unit]
	n := d.Intn(mostDays/days+1) >> d.Intn(21)
	m := thrownMile(d)
	return []string{strconv.Itoa(n) + "dwmy"[unit:unit+1], "after", m}, after(n*days, m)
}

// thrownRow is a row of one or several parts, an Op's word between.
func thrownRow(d *rand.Rand, op int, part func() ([]string, api.Expr)) ([]string, api.Expr) {
	l, first := part()
	x := api.Expr{Op: op, Kids: []api.Expr{first}}
	for d.Intn(3) == 0 {
		more, k := part()
		l = append(append(l, []string{opOr: "or", opAnd: "and"}[op]), more...)
		x.Kids = append(x.Kids, k)
	}
	if len(x.Kids) == 1 {
		return l, first
	}
	return l, x
}

// thrownCondition is a condition's tokens, at most so deep in brackets, and what they tell.
func thrownCondition(d *rand.Rand, deep int) ([]string, api.Expr) {
	return thrownRow(d, opOr, func() ([]string, api.Expr) {
		return thrownRow(d, opAnd, func() ([]string, api.Expr) {
			if deep == 1 || d.Intn(3) > 0 {
				return thrownFact(d)
			}
			l, x := thrownCondition(d, deep-1)
			return append(append([]string{"("}, l...), ")"), x
		})
	})
}

// thrownRules is the tokens of at most so many rules, and these.
func thrownRules(d *rand.Rand, most, deep int) ([]string, []api.Rule) {
	var l []string
	var rules []api.Rule
	for range d.Intn(most + 1) {
		c, act := thrownClass(d), destroy+d.Intn(3)
		head := []string{"default"}
		if c != "" {
			head = []string{"class", `"` + c + `"`}
		}
		when, x := thrownCondition(d, deep)
		l = append(append(append(append(l, head...), "keep"), when...), "then", []string{"", "destroy", "review", "keep"}[act], ";")
		rules = append(rules, of(c, x, act))
	}
	return l, rules
}

// laid is the text of tokens, with thrown gaps; a blank at least where two would be one.
func laid(d *rand.Rand, l []string) string {
	s := ""
	gap := func() {
		for d.Intn(12) == 0 {
			s += pick(d, " ", "\n", "\t", "  ", "# or\n", "#\n", "#(;\n")
		}
	}
	for i, w := range l {
		gap()
		if i > 0 && letters.MatchString(l[i-1]) && !strings.ContainsAny(w[:1], `();"`) {
			s += " "
		}
		s += w
	}
	gap()
	return s
}

// P18.1 and P18.4: texts that are right, with each fuel below what they cost, with that, and with more.
func TestThrownRightTexts(t *testing.T) {
	d := rand.New(rand.NewSource(181))
	var rules [mostRules + 1]int
	var deep [mostDepth + 1]int
	seen := map[api.Errno]int{}
	for i := range 6000 {
		tokens, l := thrownRules(d, []int{1, 2, 4, 13}[i%4], []int{8, 4, 2, 1}[i/4%4])
		s := laid(d, tokens)
		if len(s) > mostText {
			seen[api.ErrLong]++
			wrong(t, s, 0, api.ErrLong)
			continue
		}
		e := checked(l)
		seen[e]++
		if e != api.OK {
			wrong(t, s, 0, e)
			continue
		}
		right(t, s, l...)
		rules[len(l)]++
		for _, r := range l {
			deep[depthOf(r.When)]++
		}
		conditions := 0
		for _, w := range tokens {
			if w == "(" {
				conditions++
			}
		}
		cost := len(tokens) + len(l) + conditions
		costTo(t, s, cost, api.OK)
		if cost > 0 {
			for _, fuel := range []int{math.MinInt, -1, 0, d.Intn(cost), cost - 1} {
				if _, _, e := parse.Rules(s, fuel); e != api.ErrFuel {
					t.Errorf("Rules(%s, %d): error %d", short(s), fuel, e)
				}
			}
		}
	}
	if slices.Min(rules[:6]) == 0 || slices.Min(deep[1:7]) == 0 || seen[api.OK] < 2000 || seen[api.ErrThere] < 100 || seen[api.ErrArg] < 10 || seen[api.ErrLong] < 100 {
		t.Errorf("rules %v, depths %v, errors %v", rules, deep, seen)
	}
}

// thrownToken is a token of any kind.
func thrownToken(d *rand.Rand) string {
	return pick(d, append(others(), thrownMile(d), `"`+thrownOut(d, 1+d.Intn(16), inWord+".")+`"`, strconv.Itoa(d.Intn(3000))+"d", "a", "(", ")", ")", "1w", "2w", "then", "then", "or", "and")...)
}

// thrownFuel is a fuel, mostly about what a text asks for.
func thrownFuel(d *rand.Rand, asked int) int {
	return pick(d, d.Intn(asked+1), d.Intn(asked+4), asked-2+d.Intn(4), asked, plenty, 1000, -1-d.Intn(5), d.Int(), -d.Int())
}

// Texts that were right, one token or several of them put in, left out, taken twice, changed for others, or for each other.
func TestThrownWrongTexts(t *testing.T) {
	d := rand.New(rand.NewSource(182))
	seen := map[api.Errno]int{}
	for i := range 10000 {
		l, _ := thrownRules(d, 1+i%4, 1+i%mostDepth)
		for range 1 + i%3/2 {
			if len(l) == 0 {
				l = []string{"default"}
			}
			k, j := d.Intn(len(l)), d.Intn(len(l))
			switch d.Intn(6) {
			case 0:
				l = slices.Insert(l, k, thrownToken(d))
			case 1:
				l = slices.Delete(l, k, k+1)
			case 2:
				l = slices.Insert(l, k, l[j])
			case 3:
				l[k], l[j] = l[j], l[k]
			case 4:
				l = l[:k]
			default:
				l[k] = thrownToken(d)
			}
		}
		s := laid(d, l)
		asked := len(reckoned(s).places)
		for range 6 {
			seen[held(t, s, thrownFuel(d, asked))]++
		}
		seen[eachFuel(t, s)]++
	}
	for _, e := range []api.Errno{api.OK, api.ErrText, api.ErrFuel, api.ErrThere, api.ErrArg, api.ErrLong} {
		if seen[e] < 40 {
			t.Errorf("errors: %v", seen)
		}
	}
}

// thrownTokens is tokens at random, up to the first one that may not stand where it stands such ones but for one in so many.
func thrownTokens(d *rand.Rand, seldom int) []string {
	var l []string
	for asked, opens := "rule", 0; len(l) == 0 || asked != "rule" && asked != "" || d.Intn(5) > 0; {
		w := thrownToken(d)
		is, _ := firstOf(w)
		ahead, more := next(asked, opens, is.is)
		if ahead != "" || asked == "" || d.Intn(seldom) == 0 {
			l = append(l, w)
			asked, opens = ahead, more
		}
	}
	return l
}

// Texts put together of tokens at random: of any, and of such as may stand there, seldom not.
func TestThrownTokens(t *testing.T) {
	d := rand.New(rand.NewSource(183))
	seen := map[api.Errno]int{}
	for i := range 6000 {
		s := laid(d, thrownTokens(d, []int{1, 100, 1000, 1 << 20}[i%4]))
		asked := len(reckoned(s).places)
		for range 4 {
			seen[held(t, s, thrownFuel(d, asked))]++
		}
		if i%4 == 0 {
			eachFuel(t, s)
		}
	}
	for _, e := range []api.Errno{api.OK, api.ErrText, api.ErrFuel, api.ErrThere, api.ErrArg, api.ErrLong} {
		if seen[e] < 100 {
			t.Errorf("errors: %v", seen)
		}
	}
}

// Right texts with one byte another one, put in, or taken out.
func TestThrownBytes(t *testing.T) {
	d := rand.New(rand.NewSource(184))
	seen := map[api.Errno]int{}
	for range 1500 {
		l, _ := thrownRules(d, 3, 3)
		s := laid(d, l)
		for range 20 {
			i, c := d.Intn(len(s)+1), pick(d, string([]byte{byte(d.Intn(256))}), thrownOut(d, 1, "0123456789dwmy ();#\"\n"))
			k := pick(d, s[:i]+c+s[i:], s[:i]+c+s[min(i+1, len(s)):], s[:i]+s[min(i+1, len(s)):], s[:i], s[i:])
			seen[held(t, k, plenty)]++
			seen[held(t, k, thrownFuel(d, len(reckoned(k).places)))]++
		}
	}
	for _, e := range []api.Errno{api.OK, api.ErrText, api.ErrTime, api.ErrFuel, api.ErrThere} {
		if seen[e] < 40 {
			t.Errorf("errors: %v", seen)
		}
	}
}

// All texts of few tokens that are right but for the last one.
func TestAllBeginnings(t *testing.T) {
	signs := append(strings.Fields(nine), "x", `"a"`, "1d", "(", ")", ";")
	seen := map[api.Errno]int{}
	var walk func(s string, tokens int)
	walk = func(s string, tokens int) {
		r := reckoned(s)
		l, at, e := r.with(plenty)
		rulesTo(t, s, plenty, l, at, e)
		asked := len(r.places)
		held(t, s, asked)
		seen[held(t, s, asked-1)]++
		seen[e]++
		if (e == api.OK || at == len(s)) && tokens < 16 {
			for _, w := range signs {
				walk(s+" "+w, tokens+1)
			}
		}
	}
	walk("", 0)
	if seen[api.OK] < 50 || seen[api.ErrText] < 10000 || seen[api.ErrFuel] < 10000 {
		t.Errorf("errors: %v", seen)
	}
}

// P18.3: what rule.Print writes.

// backAgain asks that l is read out of its text, if it has one, and tells Print's error.
func backAgain(t *testing.T, l []api.Rule) api.Errno {
	t.Helper()
	s, e := rule.Print(l)
	if e != api.OK {
		return e
	}
	got, at, f := parse.Rules(s, plenty)
	if !rule.Same(got, l) || shownAll(got) != shownAll(l) || at != len(s) || f != api.OK {
		t.Errorf("%s, which is written as %q, is read as %s, %d, error %d", shownAll(l), s, shownAll(got), at, f)
	}
	return e
}

// thrown is a condition that may be, of at most so many nodes, at most so deep.
func thrown(d *rand.Rand, most, deep int) api.Expr {
	if most < 3 || deep < 2 || d.Intn(12) == 0 {
		_, x := thrownFact(d)
		return x
	}
	x := api.Expr{Op: pick(d, opOr, opAnd)}
	for left := most - 1; left > 0 && (len(x.Kids) < 2 || d.Intn(4) > 0); {
		room := left
		if len(x.Kids) == 0 {
			room-- // for the second one
		}
		k := thrown(d, pick(d, 1, 1+d.Intn(room), room), deep-1)
		x.Kids = append(x.Kids, k)
		left -= nodesOf(k)
	}
	return x
}

func TestThrownLists(t *testing.T) {
	d := rand.New(rand.NewSource(185))
	var nodes [mostNodes + 1]int
	var depths [mostDepth + 1]int
	var rules [mostRules + 1]int
	seen := map[api.Errno]int{}
	for i := range 30000 {
		var l []api.Rule
		for range d.Intn([]int{2, 4, 13}[i%3] + 1) {
			l = append(l, of(thrownClass(d), thrown(d, 1+d.Intn([]int{24, 9, 3}[i%3]), 1+d.Intn(mostDepth)), destroy+d.Intn(3)))
		}
		e := backAgain(t, l)
		seen[e]++
		if e != api.OK {
			continue
		}
		rules[len(l)]++
		for _, r := range l {
			nodes[nodesOf(r.When)]++
			depths[depthOf(r.When)]++
		}
	}
	if slices.Min(nodes[1:2]) == 0 || slices.Min(nodes[3:]) == 0 || slices.Min(depths[1:]) == 0 || slices.Min(rules[:]) == 0 || seen[api.OK] < 10000 {
		t.Errorf("nodes %v, depths %v, rules %v, errors %v", nodes, depths, rules, seen)
	}
}

// The greatest conditions and the deepest ones, and as many rules as may be.
func TestGreatestLists(t *testing.T) {
	for n := 2; n < mostNodes; n++ {
		for _, x := range []api.Expr{or(rowOf(n)...), and(rowOf(n)...)} {
			for act := destroy; act <= keep; act++ {
				if e := backAgain(t, []api.Rule{of("", x, act)}); e != api.OK {
					t.Errorf("%d facts: error %d", n, e)
				}
			}
		}
	}
	// Each part but the deepest one has a fact ahead of the next, or behind it, by all rows of or and and.
	for ways := range 1 << (mostDepth - 1) {
		for _, ahead := range []bool{true, false} {
			x := after(mostDays, "m")
			for i := range mostDepth - 1 {
				kids := []api.Expr{after(i, "m"), x}
				if !ahead {
					slices.Reverse(kids)
				}
				x = api.Expr{Op: opOr + ways>>i&1, Kids: kids}
				if e := backAgain(t, []api.Rule{of("c", x, review), of("", x, keep)}); e != api.OK {
					t.Errorf("%s: error %d", shownAll([]api.Rule{of("", x, keep)}), e)
				}
			}
		}
	}
	var l []api.Rule
	for i := range mostRules {
		l = append(l, of(strings.Repeat(string(rune('a'+i)), 1+i%3), after(i, "m"), destroy+i%3))
		if e := backAgain(t, l); e != api.OK {
			t.Errorf("%d rules: error %d", len(l), e)
		}
	}
}

// shapes are all conditions with so many facts, out of these.
func shapes(facts int, of []api.Expr) []api.Expr {
	if facts == 1 {
		return of
	}
	var l []api.Expr
	var put func(kids []api.Expr, left int)
	put = func(kids []api.Expr, left int) {
		if left == 0 {
			l = append(l, or(kids...), and(kids...))
			return
		}
		for n := 1; n <= min(left, facts-1); n++ {
			for _, k := range shapes(n, of) {
				put(append(kids[:len(kids):len(kids)], k), left-n)
			}
		}
	}
	put(nil, facts)
	return l
}

func TestAllSmallConditions(t *testing.T) {
	count := 0
	for _, x := range []struct {
		of   []api.Expr
		most int
	}{{[]api.Expr{after(1, "a")}, 6}, {[]api.Expr{after(1, "a"), after(14, "b")}, 4}} {
		for n := 1; n <= x.most; n++ {
			for _, when := range shapes(n, x.of) {
				if e := backAgain(t, []api.Rule{of("", when, keep)}); e != api.OK {
					t.Errorf("%s: error %d", shownAll([]api.Rule{of("", when, keep)}), e)
				}
				count++
			}
		}
	}
	if count != 1+2+10+62+430+3194+2*1+4*2+8*10+16*62 {
		t.Errorf("%d conditions", count)
	}
}
