package parse_test

import (
	"fmt"
	"hanaper/api"
	"hanaper/parse"
	"math"
	"strings"
	"testing"
	"unsafe"
)

// one asks that a condition's text is read as x, in a rule of default and in those of classes.
func one(t *testing.T, s string, x api.Expr) {
	t.Helper()
	right(t, "default keep "+s+" then destroy;", of("", x, destroy))
	if len(s) < 250 {
		right(t, `class "a" keep `+s+` then keep; class "b" keep `+s+" then review;\n", of("a", x, keep), of("b", x, review))
	}
}

func TestLimits(t *testing.T) {
	if api.MaxText != mostText || api.MaxDays != mostDays || api.MaxRules != mostRules || api.MaxNodes != mostNodes || api.MaxDepth != mostDepth {
		t.Error("a limit is another one")
	}
	if api.ExAfter != opAfter || api.ExOr != opOr || api.ExAnd != opAnd || api.ActDestroy != destroy || api.ActReview != review || api.ActKeep != keep {
		t.Error("a kind has another number")
	}
}

// P18.1: rules.

func TestExample(t *testing.T) {
	const s = "default keep 2y after closed then destroy;"
	right(t, s, of("", after(730, "closed"), destroy))
	costTo(t, s, 9, api.OK)
}

func TestRules(t *testing.T) {
	a, b := after(1, "a"), or(after(14, "b"), after(0, "c"))
	right(t, "default keep 1d after a then destroy;", of("", a, destroy))
	right(t, "default keep 1d after a then review;", of("", a, review))
	right(t, "default keep 1d after a then keep;", of("", a, keep))
	right(t, `class "hr" keep 1d after a then destroy;`, of("hr", a, destroy))
	right(t, `class "hr" keep 1d after a then review;`, of("hr", a, review))
	right(t, `class "hr" keep 1d after a then keep;`, of("hr", a, keep))
	right(t, `class "hr" keep 1d after a then keep; default keep 2w after b or 0d after c then review;`, of("hr", a, keep), of("", b, review))
	right(t, `default keep 2w after b or 0d after c then review; class "hr" keep 1d after a then destroy;`, of("", b, review), of("hr", a, destroy))
	right(t, `class "b" keep 2w after b or 0d after c then destroy; class "a" keep 1d after a then keep; class "c" keep 1d after a then review;`, of("b", b, destroy), of("a", a, keep), of("c", a, review))
	for _, c := range []string{"a", "0", "-", "_", ".", "a.b", "default", "class", "keep", "2y", "sixteen.letters_", "0123456789abcdef"} {
		right(t, `class "`+c+`" keep 1d after a then destroy;`, of(c, a, destroy))
		right(t, `default keep 1d after a then keep;class "`+c+`" keep 1d after a then review;`, of("", a, keep), of(c, a, review))
	}
}

// A text without a token has no rules, and takes no fuel.
func TestNoRules(t *testing.T) {
	for _, s := range []string{"", " ", "\n", "\t", " \n\t\n ", "#", "# default keep", "#;\n", "\n# a\n# b\n ", "#(\n#)", strings.Repeat(" ", mostText), "#" + strings.Repeat("\n", mostText-1), "#" + strings.Repeat("$", mostText-1)} {
		right(t, s)
		costTo(t, s, 0, api.OK)
		for _, fuel := range []int{math.MinInt, -1, 0, 1, math.MaxInt} {
			rulesTo(t, s, fuel, nil, len(s), api.OK)
		}
	}
}

// What stands between tokens, and whether anything does, changes no rule and no fuel.
func TestGaps(t *testing.T) {
	want := []api.Rule{of("hr", or(and(after(365, "a"), after(7, "b")), after(0, "c")), keep), of("", after(2, "d"), review)}
	const tokens = `class "hr" keep ( 1y after a and 1w after b ) or 0d after c then keep ; default keep 2d after d then review ;`
	for _, gap := range []string{" ", "\n", "\t", " \n\t ", "#\n", "# \n", "#a\n", " # (;\n\n", "#\"\n\t"} {
		s := strings.ReplaceAll(tokens, " ", gap)
		right(t, s, want...)
		right(t, gap+s, want...)
		right(t, s+gap, want...)
		right(t, s+"#", want...)
		costTo(t, s, 30, api.OK)
	}
	right(t, `class"hr"keep(1y after a and 1w after b)or 0d after c then keep;default keep 2d after d then review;`, want...)
	right(t, `class"hr"keep(1yafter a and 1wafter b)or 0dafter c then keep;default keep 2dafter d then review;`, want...)
	right(t, `class"hr"keep((((((1y after a and 1w after b))))))or(0d after c)then keep;default keep(2d after d)then review;#`, want...)
}

// P18.1: facts.

func TestSpans(t *testing.T) {
	for s, n := range map[string]int{
		"0d": 0, "0w": 0, "0m": 0, "0y": 0, "1d": 1, "1w": 7, "1m": 30, "1y": 365, "2d": 2, "3w": 21, "2m": 60, "2y": 730, "12m": 360, "60d": 60, "365d": 365, "52w": 364,
		"1048575d": 1048575, "1048576d": 1048576, "149796w": 1048572, "34952m": 1048560, "2872y": 1048280,
	} {
		one(t, s+" after x", after(n, "x"))
		one(t, s+" after x or "+s+" after y", or(after(n, "x"), after(n, "y")))
		one(t, "3d after x and ("+s+" after z)", and(after(3, "x"), after(n, "z")))
	}
}

func TestMilestones(t *testing.T) {
	names := []string{"a", "z", "ingest", "closed", "left", "d", "y", "a0", "a-", "a_", "a-b_c-1", "x--", "sixteen-letters_", "abcdefghijklmnop", "y2345678901234-_"}
	for _, w := range strings.Fields(nine) {
		names = append(names, w+"s", w[1:], w[:len(w)-1], w+"-"+w[:1], w+"_", w+"0", "x"+w)
	}
	for _, m := range names {
		one(t, "1d after "+m, after(1, m))
		one(t, "1d after "+m+" or 2d after "+m+" and 3d after x", or(after(1, m), and(after(2, m), after(3, "x"))))
	}
}

// None of the nine words, no word that is too long, and nothing else can be a milestone's name.
func TestNoMilestones(t *testing.T) {
	none := append(strings.Fields(nine), "seventeen-letters", "abcdefghijklmnopq", strings.Repeat("a", 300), `"a"`, `"closed"`, `"then"`, "1d", "2y", "(", ")", ";")
	for _, m := range none {
		for _, rest := range []string{"", " then keep;", ";", " x then keep;", " after x"} {
			wrong(t, "default keep 1d after "+m+rest, 22, api.ErrText)
			wrong(t, "default keep (1d after "+m+rest, 23, api.ErrText)
			wrong(t, "default keep 1d after x and 2d after "+m+rest, 37, api.ErrText)
		}
	}
}

// P18.1: conditions.

// read are conditions' texts, and what they are to be read as.
func read() []struct {
	s string
	x api.Expr
} {
	a, b, c, d := after(1, "a"), after(2, "b"), after(3, "c"), after(4, "d")
	return []struct {
		s string
		x api.Expr
	}{
		{"A", a},
		{"A or B", or(a, b)},
		{"B or A", or(b, a)},
		{"A or A", or(a, a)},
		{"A and B", and(a, b)},
		{"B and A", and(b, a)},
		{"A or B or C", or(a, b, c)},
		{"A and B and C", and(a, b, c)},
		{"A or B or C or D", or(a, b, c, d)},
		{"A and B and C and D", and(a, b, c, d)},

		{"A and B or C", or(and(a, b), c)},
		{"A or B and C", or(a, and(b, c))},
		{"A or B and C or D", or(a, and(b, c), d)},
		{"A and B or C and D", or(and(a, b), and(c, d))},
		{"A and B and C or D", or(and(a, b, c), d)},
		{"A or B and C and D", or(a, and(b, c, d))},
		{"A and B or C or D", or(and(a, b), c, d)},
		{"A or B or C and D", or(a, b, and(c, d))},
		{"A and B or C and D or A and C or B", or(and(a, b), and(c, d), and(a, c), b)},

		{"(A)", a},
		{"((A))", a},
		{"(((A)))", a},
		{"(A or B)", or(a, b)},
		{"(A and B)", and(a, b)},
		{"((A or B))", or(a, b)},
		{"((A and B))", and(a, b)},
		{"(A) or B", or(a, b)},
		{"A or (B)", or(a, b)},
		{"(A) and (B)", and(a, b)},
		{"(((A) and ((B))))", and(a, b)},
		{"A and (B) and C", and(a, b, c)},
		{"(A and B) or C", or(and(a, b), c)},
		{"A or (B and C)", or(a, and(b, c))},
		{"(A or B and C)", or(a, and(b, c))},
		{"A or ((B and C)) or D", or(a, and(b, c), d)},

		{"(A or B) and C", and(or(a, b), c)},
		{"A and (B or C)", and(a, or(b, c))},
		{"A and ((B or C)) and D", and(a, or(b, c), d)},
		{"(A or B) and (C or D)", and(or(a, b), or(c, d))},
		{"A and (B or C) or D", or(and(a, or(b, c)), d)},
		{"A or (B or C) and D", or(a, and(or(b, c), d))},

		{"(A or B) or C", or(or(a, b), c)},
		{"A or (B or C)", or(a, or(b, c))},
		{"A or (B or C) or D", or(a, or(b, c), d)},
		{"(A or B) or (C or D)", or(or(a, b), or(c, d))},
		{"((A or B) or C) or D", or(or(or(a, b), c), d)},
		{"A or (B or (C or D))", or(a, or(b, or(c, d)))},
		{"A or ((B or C) or D)", or(a, or(or(b, c), d))},
		{"(A and B) and C", and(and(a, b), c)},
		{"A and (B and C)", and(a, and(b, c))},
		{"A and (B and C) and D", and(a, and(b, c), d)},
		{"(A and B) and (C and D)", and(and(a, b), and(c, d))},
		{"((A and B) and C) and D", and(and(and(a, b), c), d)},
		{"A and (B and (C and D))", and(a, and(b, and(c, d)))},
		{"(A and B) and C or D", or(and(and(a, b), c), d)},
		{"A or B and (C and D)", or(a, and(b, and(c, d)))},
		{"(A and B or C) or D", or(or(and(a, b), c), d)},
		{"A and (B and C or D)", and(a, or(and(b, c), d))},
		{"((A or B) and C) and D or A", or(and(and(or(a, b), c), d), a)},
	}
}

// spelt is a condition's text, of which A to D are facts.
func spelt(s string) string {
	return strings.NewReplacer("A", "1d after a", "B", "2d after b", "C", "3d after c", "D", "4d after d").Replace(s)
}

func TestConditions(t *testing.T) {
	for _, x := range read() {
		one(t, spelt(x.s), x.x)
	}
}

// Brackets about a whole condition change nothing, and those about a part of one only what binds it.
func TestMoreBrackets(t *testing.T) {
	count := 0
	pair := func(s string, x api.Expr) {
		if nodesOf(x) <= mostNodes && depthOf(x) <= mostDepth {
			s = "default keep " + s + " then destroy;"
			rulesTo(t, s, plenty, []api.Rule{of("", x, destroy)}, len(s), api.OK)
			count++
		}
	}
	for _, x := range read() {
		s := spelt(x.s)
		for n := 1; n <= 3; n++ {
			one(t, strings.Repeat("(", n)+s+strings.Repeat(")", n), x.x)
		}
		for _, y := range read() {
			r := spelt(y.s)
			pair("("+s+") or ("+r+")", or(x.x, y.x))
			pair("("+s+") and ("+r+")", and(x.x, y.x))
			pair("1d after a or ("+s+") and (("+r+"))", or(after(1, "a"), and(x.x, y.x)))
		}
	}
	if count < 8000 {
		t.Errorf("%d pairs", count)
	}
}

// Rows of one to eight facts, with or and and between in all ways: and binds closer.
func TestRows(t *testing.T) {
	for n := 1; n <= 8; n++ {
		for ways := range 1 << (n - 1) {
			s := "0d after m"
			terms := [][]api.Expr{{after(0, "m")}}
			for i := 1; i < n; i++ {
				between := "or"
				if ways>>(i-1)&1 == 1 {
					between = "and"
				} else {
					terms = append(terms, nil)
				}
				last := len(terms) - 1
				terms[last] = append(terms[last], after(i, "m"))
				s += fmt.Sprintf(" %s %dd after m", between, i)
			}
			var kids []api.Expr
			for _, l := range terms {
				if len(l) == 1 {
					kids = append(kids, l[0])
				} else {
					kids = append(kids, and(l...))
				}
			}
			x := kids[0]
			if len(kids) > 1 {
				x = or(kids...)
			}
			rulesTo(t, "default keep "+s+" then review;", plenty, []api.Rule{of("", x, review)}, len("default keep "+s+" then review;"), api.OK)
		}
	}
}

// Rule 3: what is answered shares nothing with the text, and no two parts of it share anything.
func TestAnswersShareNothing(t *testing.T) {
	const text = `class "hr" keep 1d after a and (2d after b or 3d after c) or 4d after d and 5d after e then keep; default keep 1d after a or 2d after b then review;`
	want := []api.Rule{
		of("hr", or(and(after(1, "a"), or(after(2, "b"), after(3, "c"))), and(after(4, "d"), after(5, "e"))), keep),
		of("", or(after(1, "a"), after(2, "b")), review),
	}
	b := []byte(text)
	s := unsafe.String(&b[0], len(b))
	l, _, _ := parse.Rules(s, plenty)
	other, _, _ := parse.Rules(s, plenty)
	if string(b) != text {
		t.Errorf("what was handed in is %q behind it", b)
	}
	copy(b, strings.Repeat("x", len(b)))
	if shownAll(l) != shownAll(want) {
		t.Errorf("the rules turn with the text: %s", shownAll(l))
	}
	// What is laid behind any list, or changed in it, is seen at no other place.
	var spoil func(x *api.Expr)
	spoil = func(x *api.Expr) {
		for i := range x.Kids {
			spoil(&x.Kids[i])
		}
		_ = append(x.Kids, after(-1, "spoilt"), after(-1, "spoilt"))
	}
	_ = append(l[:1:1], of("spoilt", api.Expr{}, 0))
	for i := range l {
		spoil(&l[i].When)
	}
	if shownAll(l) != shownAll(want) {
		t.Errorf("lists share what is behind them: %s", shownAll(l))
	}
	l[0].When.Kids[0].Kids[1].Kids[0].Mile, l[1].When.Kids[0].Days = "spoilt", -1
	if shownAll(other) != shownAll(want) {
		t.Errorf("two answers share their parts: %s", shownAll(other))
	}
	right(t, text, want...)
}

// The same is answered again, whatever was read between.
func TestAgain(t *testing.T) {
	for range 3 {
		right(t, "default keep (((((((1d after a))))))) then keep;", of("", after(1, "a"), keep))
		wrong(t, "default keep ((((((((1d after a)))))))) then keep;", 21, api.ErrText)
		wrong(t, "default keep 1d after a then", 28, api.ErrText)
		wrong(t, "default keep 2873y after a then keep;", 13, api.ErrTime)
		rulesTo(t, "default keep 1d after a then keep;", 3, nil, 13, api.ErrFuel)
		right(t, `class "a" keep 1d after b then review;`, of("a", after(1, "b"), review))
		right(t, "")
	}
}
