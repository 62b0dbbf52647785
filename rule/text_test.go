package rule_test

import (
	"hanaper/api"
	"hanaper/rule"
	"regexp"
	"strconv"
	"strings"
	"testing"
	"unsafe"
)

// P17.2: texts of conditions.

func TestExample(t *testing.T) {
	when := or(after(730, "closed"), and(after(30, "left"), after(1, "ingest")))
	fair(t, when, "2y after closed or 1m after left and 1d after ingest")
	right(t, "default keep 2y after closed or 1m after left and 1d after ingest then destroy;\n", of("", when, destroy))
}

// Days are told as span.Text tells them.
func TestTextsOfDays(t *testing.T) {
	for days, text := range map[int]string{
		0: "0d", 1: "1d", 2: "2d", 6: "6d", 7: "1w", 8: "8d", 14: "2w", 29: "29d", 30: "1m", 31: "31d", 35: "5w", 60: "2m", 210: "7m", 364: "52w", 365: "1y", 366: "366d", 367: "367d",
		370: "370d", 371: "53w", 390: "13m", 730: "2y", 2555: "7y", 10950: "30y", 76650: "210y", 1048280: "2872y", 1048560: "34952m", 1048572: "149796w", 1048575: "1048575d", 1048576: "1048576d",
	} {
		fair(t, after(days, "m"), text+" after m")
		fair(t, and(after(days, "a"), after(days, "b")), text+" after a and "+text+" after b")
		right(t, "default keep "+text+" after m then keep;\n", of("", after(days, "m"), keep))
	}
	for days := range 4000 {
		fair(t, after(days, "x-1"), spanned(days)+" after x-1")
		fair(t, after(mostDays-days, "x-1"), spanned(mostDays-days)+" after x-1")
	}
}

// Kids of each Op in each Op, at each place.
func TestBrackets(t *testing.T) {
	a, b, c, d := after(1, "a"), after(7, "b"), after(30, "c"), after(365, "d")
	for _, x := range []struct {
		when api.Expr
		text string
	}{
		{a, "1d after a"},
		{or(a, b), "1d after a or 1w after b"},
		{and(a, b), "1d after a and 1w after b"},
		{or(b, a), "1w after b or 1d after a"},
		{and(b, a), "1w after b and 1d after a"},
		{or(a, a), "1d after a or 1d after a"},
		{or(a, b, c), "1d after a or 1w after b or 1m after c"},
		{and(a, b, c), "1d after a and 1w after b and 1m after c"},
		{or(a, b, c, d), "1d after a or 1w after b or 1m after c or 1y after d"},
		{and(a, b, c, d), "1d after a and 1w after b and 1m after c and 1y after d"},

		{or(or(a, b), c), "(1d after a or 1w after b) or 1m after c"},
		{or(a, or(b, c)), "1d after a or (1w after b or 1m after c)"},
		{or(and(a, b), c), "1d after a and 1w after b or 1m after c"},
		{or(a, and(b, c)), "1d after a or 1w after b and 1m after c"},
		{and(or(a, b), c), "(1d after a or 1w after b) and 1m after c"},
		{and(a, or(b, c)), "1d after a and (1w after b or 1m after c)"},
		{and(and(a, b), c), "(1d after a and 1w after b) and 1m after c"},
		{and(a, and(b, c)), "1d after a and (1w after b and 1m after c)"},

		{or(or(a, b), or(c, d)), "(1d after a or 1w after b) or (1m after c or 1y after d)"},
		{or(and(a, b), and(c, d)), "1d after a and 1w after b or 1m after c and 1y after d"},
		{or(or(a, b), and(c, d)), "(1d after a or 1w after b) or 1m after c and 1y after d"},
		{or(and(a, b), or(c, d)), "1d after a and 1w after b or (1m after c or 1y after d)"},
		{and(or(a, b), or(c, d)), "(1d after a or 1w after b) and (1m after c or 1y after d)"},
		{and(and(a, b), and(c, d)), "(1d after a and 1w after b) and (1m after c and 1y after d)"},
		{and(or(a, b), and(c, d)), "(1d after a or 1w after b) and (1m after c and 1y after d)"},
		{and(and(a, b), or(c, d)), "(1d after a and 1w after b) and (1m after c or 1y after d)"},

		{or(a, or(b, c), d), "1d after a or (1w after b or 1m after c) or 1y after d"},
		{or(a, and(b, c), d), "1d after a or 1w after b and 1m after c or 1y after d"},
		{and(a, or(b, c), d), "1d after a and (1w after b or 1m after c) and 1y after d"},
		{and(a, and(b, c), d), "1d after a and (1w after b and 1m after c) and 1y after d"},
		{or(or(a, b, c), d), "(1d after a or 1w after b or 1m after c) or 1y after d"},
		{and(a, and(b, c, d)), "1d after a and (1w after b and 1m after c and 1y after d)"},

		{or(or(or(a, b), c), d), "((1d after a or 1w after b) or 1m after c) or 1y after d"},
		{or(or(and(a, b), c), d), "(1d after a and 1w after b or 1m after c) or 1y after d"},
		{or(and(or(a, b), c), d), "(1d after a or 1w after b) and 1m after c or 1y after d"},
		{or(and(and(a, b), c), d), "(1d after a and 1w after b) and 1m after c or 1y after d"},
		{and(or(or(a, b), c), d), "((1d after a or 1w after b) or 1m after c) and 1y after d"},
		{and(or(and(a, b), c), d), "(1d after a and 1w after b or 1m after c) and 1y after d"},
		{and(and(or(a, b), c), d), "((1d after a or 1w after b) and 1m after c) and 1y after d"},
		{and(and(and(a, b), c), d), "((1d after a and 1w after b) and 1m after c) and 1y after d"},
		{or(a, or(b, and(c, d))), "1d after a or (1w after b or 1m after c and 1y after d)"},
		{or(a, and(b, or(c, d))), "1d after a or 1w after b and (1m after c or 1y after d)"},
		{and(a, or(b, or(c, d))), "1d after a and (1w after b or (1m after c or 1y after d))"},
		{and(a, or(b, and(c, d))), "1d after a and (1w after b or 1m after c and 1y after d)"},
	} {
		fair(t, x.when, x.text)
		if !held(t, x.when) {
			t.Errorf("%q: the tests' own reckoning is wrong", x.text)
		}
		if len(x.text) < 500 {
			right(t, "class \"hr\" keep "+x.text+" then review;\n", of("hr", x.when, review))
		}
	}
}

func TestTextsOfDeepConditions(t *testing.T) {
	const leaf = "1d after a"
	for deep := 2; deep <= mostDepth; deep++ {
		n := deep - 2
		fair(t, comb(or, deep, false), strings.Repeat("(", n)+leaf+" or "+leaf+strings.Repeat(") or "+leaf, n))
		fair(t, comb(or, deep, true), strings.Repeat(leaf+" or (", n)+leaf+" or "+leaf+strings.Repeat(")", n))
		fair(t, comb(and, deep, false), strings.Repeat("(", n)+leaf+" and "+leaf+strings.Repeat(") and "+leaf, n))
		fair(t, comb(and, deep, true), strings.Repeat(leaf+" and (", n)+leaf+" and "+leaf+strings.Repeat(")", n))
	}
	a := after(1, "a")
	fair(t, or(a, and(a, or(a, and(a, or(a, and(a, or(a, a))))))), strings.Repeat(leaf+" or "+leaf+" and (", 3)+leaf+" or "+leaf+")))")
	fair(t, and(or(and(or(and(or(and(a, a), a), a), a), a), a), a), "((("+leaf+strings.Repeat(" and "+leaf+" or "+leaf+")", 3)+" and "+leaf)
	unfair(t, or(and(or(and(or(and(or(and(a, a), a), a), a), a), a), a), a))
}

func TestExprOfWhatMayNotBe(t *testing.T) {
	for _, x := range few() {
		if s, e := rule.Expr(x); s != "" || e != api.ErrArg {
			t.Errorf("Expr(%s): %q, error %d", shown(x), s, e)
		}
	}
	if s, e := rule.Expr(api.Expr{}); s != "" || e != api.ErrArg {
		t.Errorf("Expr of nothing: %q, error %d", s, e)
	}
}

// P17.2: texts of lists.

func TestPrint(t *testing.T) {
	a, b := after(1, "a"), and(after(0, "ingest"), or(after(7, "b_1"), after(3650, "c-2")))
	right(t, "default keep 1d after a then destroy;\n", of("", a, destroy))
	right(t, "default keep 1d after a then review;\n", of("", a, review))
	right(t, "default keep 1d after a then keep;\n", of("", a, keep))
	right(t, "class \"hr\" keep 1d after a then destroy;\n", of("hr", a, destroy))
	right(t, "class \"hr\" keep 1d after a then review;\n", of("hr", a, review))
	right(t, "class \"default\" keep 1d after a then keep;\n", of("default", a, keep))
	right(t, "class \".-_0\" keep 0d after ingest and (1w after b_1 or 10y after c-2) then review;\n", of(".-_0", b, review))
	right(t, "class \"b\" keep 1d after a then keep;\nclass \"a\" keep 1d after a then keep;\ndefault keep 1d after a then destroy;\n", of("b", a, keep), of("a", a, keep), of("", a, destroy))
	right(t, "default keep 1d after a then keep;\nclass \"sixteen.letters_\" keep 0d after ingest and (1w after b_1 or 10y after c-2) then destroy;\n", of("", a, keep), of("sixteen.letters_", b, destroy))
}

// Each of Check's errors is Print's, and no text stands beside it.
func TestPrintOfWhatMayNotBe(t *testing.T) {
	a := after(1, "a")
	wrong(t, api.ErrMany, plain(mostRules+1)...)
	wrong(t, api.ErrArg, of("", a, 0))
	wrong(t, api.ErrArg, of("A", a, keep))
	wrong(t, api.ErrThere, of("", a, keep), of("", a, keep))
	for _, x := range few() {
		wrong(t, api.ErrArg, of("", x, keep))
		wrong(t, api.ErrArg, of("b", a, keep), of("a", x, keep))
	}
}

// sized are rules whose text has n bytes, from 477 to 957: their milestones' names are as long as that asks for.
func sized(t *testing.T, n int) []api.Rule {
	t.Helper()
	rules := func(more int) []api.Rule {
		var kids []api.Expr
		for range 32 {
			some := min(more, mostName-1)
			more -= some
			kids = append(kids, after(1, "a"+strings.Repeat("b", some)))
		}
		return []api.Rule{of("", or(kids[:16]...), destroy), of("c", and(kids[16:]...), keep)}
	}
	short, _, _ := reckoned(rules(0))
	l := rules(n - len(short))
	text := ""
	for _, r := range l {
		s, _, _ := reckoned([]api.Rule{r})
		text += s
	}
	if len(text) != n {
		t.Fatalf("%d bytes, not %d", len(text), n)
	}
	return l
}

func TestHowLongTextsMayBe(t *testing.T) {
	for n := mostText - 60; n <= mostText+60; n++ {
		want := api.OK
		if n > mostText {
			want = api.ErrLong
		}
		if e := all(t, sized(t, n)...); e != want {
			t.Errorf("a text of %d bytes: error %d, not %d", n, e, want)
		}
	}
	s, e := rule.Print(sized(t, mostText))
	if len(s) != mostText || e != api.OK {
		t.Errorf("%d bytes, error %d", len(s), e)
	}
	// One rule alone, and as many as may be, each as long as it may be.
	long := or(times(23, after(mostDays, "sixteen-letters_"))...)
	listTo(t, []api.Rule{of("", long, keep)}, "", api.ErrLong, api.OK)
	if s, e := rule.Expr(long); len(s) != 23*31+22*4 || e != api.OK {
		t.Errorf("Expr has no greatest length: %d bytes, error %d", len(s), e)
	}
	var l []api.Rule
	for i := range mostRules {
		l = append(l, of("class-"+strconv.Itoa(i), long, destroy))
		listTo(t, l, "", api.ErrLong, api.OK)
	}
}

// P17.3: what is written can be read in one way, by a reader of the tests' own.

var (
	cut   = regexp.MustCompile(`[a-z][a-z0-9_-]*|"[^"]*"|[0-9]+[a-z]|[();]`)
	units = map[byte]int{'d': 1, 'w': 7, 'm': 30, 'y': 365}
)

// reader are the words of a text that are not read yet.
type reader []string

func (r *reader) next() string {
	if len(*r) == 0 {
		return ""
	}
	s := (*r)[0]
	*r = (*r)[1:]
	return s
}

// row is what one reads, or several of an Op, a word between.
func (r *reader) row(op int, between string, one func() api.Expr) api.Expr {
	kids := []api.Expr{one()}
	for len(*r) > 0 && (*r)[0] == between {
		r.next()
		kids = append(kids, one())
	}
	if len(kids) == 1 {
		return kids[0]
	}
	return api.Expr{Op: op, Kids: kids}
}

func (r *reader) condition() api.Expr { return r.row(opOr, "or", r.term) }
func (r *reader) term() api.Expr      { return r.row(opAnd, "and", r.fact) }

func (r *reader) fact() api.Expr {
	s := r.next()
	if s == "" || s == "(" {
		var x api.Expr
		if s == "(" {
			x = r.condition()
		}
		r.next()
		return x
	}
	n, _ := strconv.Atoi(s[:len(s)-1])
	r.next()
	return after(n*units[s[len(s)-1]], r.next())
}

// read is the rules that a text tells.
func read(s string) []api.Rule {
	var l []api.Rule
	for r := reader(cut.FindAllString(s, -1)); len(r) > 0; {
		var x api.Rule
		if r.next() == "class" {
			x.Class = strings.Trim(r.next(), `"`)
		}
		r.next()
		x.When = r.condition()
		r.next()
		x.Act = map[string]int{"destroy": destroy, "review": review, "keep": keep}[r.next()]
		r.next()
		l = append(l, x)
	}
	return l
}

// backAgain asks that l is read out of its text.
func backAgain(t *testing.T, l []api.Rule) {
	t.Helper()
	s, e := rule.Print(l)
	if got := read(s); e == api.OK && (shownAll(got) != shownAll(l) || !rule.Same(got, l)) {
		t.Errorf("%q is read as %s, not as %s", s, shownAll(got), shownAll(l))
	}
}

// shapes are all conditions with so many leaves, out of these.
func shapes(leaves int, of []api.Expr) []api.Expr {
	if leaves == 1 {
		return of
	}
	var l []api.Expr
	var put func(kids []api.Expr, left int)
	put = func(kids []api.Expr, left int) {
		if left == 0 {
			l = append(l, or(kids...), and(kids...))
			return
		}
		for n := 1; n <= min(left, leaves-1); n++ {
			for _, k := range shapes(n, of) {
				put(append(kids[:len(kids):len(kids)], k), left-n)
			}
		}
	}
	put(nil, leaves)
	return l
}

// No two of all small conditions are written the same.
func TestAllSmallConditions(t *testing.T) {
	texts := map[string]string{}
	add := func(of []api.Expr, most, want int) {
		for n := 1; n <= most; n++ {
			for _, x := range shapes(n, of) {
				if !held(t, x) {
					t.Fatalf("%s may be", shown(x))
				}
				s, _ := rule.Expr(x)
				if texts[s] != "" && texts[s] != shown(x) {
					t.Errorf("%q: %s, and %s", s, shown(x), texts[s])
				}
				texts[s] = shown(x)
				backAgain(t, []api.Rule{{When: x, Act: keep}})
			}
		}
		if len(texts) != want {
			t.Errorf("%d texts, not %d", len(texts), want)
		}
	}
	const one = 1 + 2 + 10 + 62 + 430 + 3194 // of one leaf to six
	add([]api.Expr{after(1, "a")}, 6, one)
	add([]api.Expr{after(1, "a"), after(7, "b")}, 4, one+(2-1)+2*(4-1)+10*(8-1)+62*(16-1))
}

// Rules' parts, few of each: no two lists of up to two rules are written the same.
func TestAllSmallLists(t *testing.T) {
	a, b := after(1, "a"), after(1, "b")
	var rules []api.Rule
	for _, c := range []string{"", "a", "default", "b"} {
		for act := destroy; act <= keep; act++ {
			for _, x := range []api.Expr{a, b, after(0, "a"), or(a, b), and(a, b), or(a, b, a), or(or(a, b), a)} {
				rules = append(rules, of(c, x, act))
			}
		}
	}
	texts := map[string]string{}
	hold := func(l ...api.Rule) {
		if all(t, l...) != api.OK {
			return
		}
		s, _ := rule.Print(l)
		if texts[s] != "" {
			t.Errorf("%q: %s, and %s", s, shownAll(l), texts[s])
		}
		texts[s] = shownAll(l)
		backAgain(t, l)
	}
	hold()
	for _, r := range rules {
		hold(r)
		for _, k := range rules {
			hold(r, k)
		}
	}
	if want := 1 + 84 + 84*63; len(texts) != want {
		t.Errorf("%d texts, not %d", len(texts), want)
	}
}

// Rule 3: a text shares nothing with the names in it.
func TestTextsShareNothing(t *testing.T) {
	name := []byte("mile")
	s := unsafe.String(&name[0], len(name))
	x := or(after(1, s), after(2, s))
	l := []api.Rule{of(s, x, keep)}
	text, _ := rule.Print(l)
	one, _ := rule.Expr(x.Kids[0])
	both, _ := rule.Expr(x)
	if string(name) != "mile" {
		t.Errorf("what was handed in is %q behind it", name)
	}
	copy(name, "else")
	if text != "class \"mile\" keep 1d after mile or 2d after mile then keep;\n" || one != "1d after mile" || both != "1d after mile or 2d after mile" {
		t.Errorf("the texts turn with the names: %q, %q, %q", text, one, both)
	}
}
